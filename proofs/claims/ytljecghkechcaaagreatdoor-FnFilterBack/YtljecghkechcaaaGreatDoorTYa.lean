/-
  What reading a filter's text holds on to: the words cut so far, and one term appended.
-/
import Derived.Test.YtljecghkechcaaaGreatDoorFO
import Derived.Test.YtljecghkechcaaaGreatDoorTYn
namespace Go.Proofs.YtljecghkechcaaaGreatDoor
open Go.RowKit Pl Il

theorem append_tmz (B m : Nat) (v : Value) (ys : List Tm) (z : Tm) (w : World) (ho : w.ownsRow B 38 3 v m (qflat ys)) (hB : B ≤ w.heap.size) (hz : z.2.2.size ≤ maxLen) (hs : m + 1 ≤ 4194304) :
    ∃ (a' : Option Addr) (c' : Nat) (w' : World), (Builtin.append_ #[24, 24] 24 #[v, .slice (some ⟨w.heap.size, 0, none⟩) 1 1]).run Tryz.prog (w.alloc (.cells #[.int .i64 z.1, .int .i64 z.2.1, .string z.2.2] 38)) = .ok (.slice a' (m + 1) c') w' ∧
      w'.ownsRow B 38 3 (.slice a' (m + 1) c') (m + 1) (qflat (ys ++ [z])) ∧ w.grownBy w' v.ownBlock := by
  have hI : TmAt (w.alloc (.cells #[.int .i64 z.1, .int .i64 z.2.1, .string z.2.2] 38)) (some ⟨w.heap.size, 0, none⟩) 1 [z] :=
    ⟨rfl, fun p hp => by simp only [List.mem_singleton] at hp; subst hp; exact hz, .inr ⟨w.heap.size, 0, rfl, by simp, fun i hi => by
      obtain rfl : i = 0 := by omega
      simp [qg]⟩⟩
  have hb0 : Below w.heap.size w (w.alloc (.cells #[.int .i64 z.1, .int .i64 z.2.1, .string z.2.2] 38)) := bl_alloc (Below.refl _ _) _
  obtain ⟨v', w', hr, ho', hg⟩ := append_tms B v m ys _ 1 1 [z] _ (ho.alloc _) (by simp; omega) hI (by omega)
  obtain ⟨a', c', rfl⟩ := slice_form ho'
  exact ⟨a', c', w', hr, ho', hg.os.trans hb0.os, hg.tape.trans hb0.tape, hg.output.trans hb0.output, Nat.le_trans hb0.size hg.size, fun k hk hne => (hg.block k (Nat.lt_of_lt_of_le hk hb0.size) hne).trans (hb0.block k hk)⟩

theorem words_mem {s : ByteArray} {xs : List ByteArray} {b i : Nat} (h : Tb.CutAt s xs b i) : ∀ x ∈ xs, x ∈ wordsS s := by
  intro x hx
  have e : Tb.dat x ∈ Tb.cutL (Tb.dat s) := by
    rw [← h.eq]
    exact List.mem_append_left _ (List.mem_map_of_mem hx)
  rw [← Tb.parts_dat] at e
  obtain ⟨y, hy, he⟩ := List.mem_map.1 e
  rw [← Tb.dat_inj he]
  exact hy
theorem word_last {s : ByteArray} {xs : List ByteArray} {b i : Nat} (h : xs ++ [s.extract b i] = wordsS s) : s.extract b i ∈ wordsS s := by
  rw [← h]; simp
theorem rdS_short (w : ByteArray) : (rdS w).1.2.2.size ≤ w.size := by
  unfold rdS
  cases h : opsS.findSome? (stepS w) with
  | none => exact Nat.zero_le _
  | some r =>
    obtain ⟨a, _, hr⟩ := List.exists_of_findSome?_eq_some h
    simp only [Option.getD_some]
    unfold stepS at hr
    split at hr
    · (cases hr; exact Nat.zero_le _)
    · split at hr
      · cases hr
      · split at hr
        · (cases hr; exact Nat.zero_le _)
        · split at hr
          · cases hr; simp only [ByteArray.size_extract]; omega
          · cases hr
theorem rdT_short (w : ByteArray) : (rdT w).1.2.2.size ≤ w.size := by
  unfold rdT
  split
  · split
    · exact Nat.zero_le _
    · split
      · simp only [ByteArray.size_extract]; omega
      · exact Nat.zero_le _
  · exact Nat.zero_le _
/-- The terms read so far. -/
def tmsS (xs : List ByteArray) : List Tm := xs.map fun w => (rdS w).1
def tmsT (xs : List ByteArray) : List Tm := xs.map fun w => (rdT w).1
theorem tmsS_snoc (xs : List ByteArray) (x : ByteArray) : tmsS (xs ++ [x]) = tmsS xs ++ [(rdS x).1] := by simp [tmsS]
theorem tmsT_snoc (xs : List ByteArray) (x : ByteArray) : tmsT (xs ++ [x]) = tmsT xs ++ [(rdT x).1] := by simp [tmsT]
theorem spec_long {s : ByteArray} (h : 144 < s.size) : specF s = none := by unfold specF; rw [if_pos h]
theorem spec_nil : specF noB = some [] := by unfold specF; rw [if_neg (by decide), if_pos rfl]
theorem spec_bad {s x : ByteArray} (h0 : ¬ s = noB) (hx : x ∈ wordsS s) (hb : (rdS x).2 = false) : specF s = none := by
  unfold specF
  by_cases hl : 144 < s.size
  · rw [if_pos hl]
  · rw [if_neg hl, if_neg h0, if_neg]
    intro h
    have := List.all_eq_true.1 h x hx
    rw [hb] at this; cases this
theorem spec_ok {s : ByteArray} (h0 : ¬ s = noB) (hl : ¬ 144 < s.size) (ha : (wordsS s).all (fun w => (rdS w).2) = true) :
    specF s = if okF (tmsS (wordsS s)) = true ∧ joinT (tmsS (wordsS s)) = s then some (tmsS (wordsS s)) else none := by
  unfold specF
  rw [if_neg hl, if_neg h0, if_pos ha]
  rfl
theorem impl_nil : implF noB = some [] := by unfold implF; rw [if_pos rfl]
theorem impl_bad {s x : ByteArray} (h0 : ¬ s = noB) (hx : x ∈ wordsS s) (hb : (rdT x).2 = false) : implF s = none := by
  unfold implF
  rw [if_neg h0, if_neg]
  intro h
  have := List.all_eq_true.1 h x hx
  rw [hb] at this; cases this
theorem impl_ok {s : ByteArray} (h0 : ¬ s = noB) (ha : (wordsS s).all (fun w => (rdT w).2) = true) :
    implF s = if okF (tmsT (wordsS s)) = true then some (tmsT (wordsS s)) else none := by
  unfold implF
  rw [if_neg h0, if_pos ha]
  rfl
theorem all_snoc {p : ByteArray → Bool} {xs : List ByteArray} {x : ByteArray} (h : xs.all p = true) (hx : p x = true) : (xs ++ [x]).all p = true := by simp [List.all_append, h, hx]
theorem short_tmz {l : List Tm} {z : Tm} (h : ∀ p, p ∈ l → p.2.2.size ≤ maxLen) (hz : z.2.2.size ≤ maxLen) : ∀ p, p ∈ l ++ [z] → p.2.2.size ≤ maxLen := fun p hp => by
  rcases List.mem_append.1 hp with hp | hp
  · exact h p hp
  · simp only [List.mem_singleton] at hp; subst hp; exact hz
theorem short_map (f : ByteArray → Tm) (hf : ∀ x, (f x).2.2.size ≤ x.size) {xs : List ByteArray} {M : Nat} (hx : ∀ x ∈ xs, x.size ≤ M) (hM : M ≤ maxLen) : ∀ p, p ∈ xs.map f → p.2.2.size ≤ maxLen := fun p hp => by
  obtain ⟨x, hx', rfl⟩ := List.mem_map.1 hp
  have := hf x
  have := hx x hx'
  omega
end Go.Proofs.YtljecghkechcaaaGreatDoor
