/-
  A variable of a struct type (BOXa), beside slices of subscribers.
  Walks of the laws' own helpers on terms: weighed, marked, looked at again.
-/
import Derived.Test.YtffpecdjfcgadaaGreatDoorZTm5
import Derived.Test.YtffpecdjfcgadaaGreatDoorZTm6
import Derived.Test.YtffpecdjfcgadaaGreatDoorZTm4
namespace Go.Proofs.YtffpecdjfcgadaaGreatDoor
end Go.Proofs.YtffpecdjfcgadaaGreatDoor
namespace Go.Proofs.YtffpecdjfcgadaaGreatDoor
open Go.RowKit Pl Il

theorem szTerm_any (p : Tm) (l : Int) (w : World) (hm : p.2.2.size ≤ maxLen) (h0 : 0 ≤ l) (h1 : l ≤ 1048576) :
    Calls Tryz.prog 100 #[qV p, .int .i64 l] w fun e w' => e = .returned (.int .i64 (if l < (p.2.2.size : Int) then -1 else l - (p.2.2.size : Int))) ∧ Below w.heap.size w w' := by
  obtain ⟨x, y, s⟩ := p
  unfold qV
  unfold maxLen at hm
  simp only at hm ⊢
  have hb : Below w.heap.size w (w.alloc (.cells #[.int .i64 x, .int .i64 y, .string s] 159)) := bl_alloc (Below.refl _ _) _
  by_cases h : l < (s.size : Int)
  · have h' : l - (s.size : Int) < 0 := by omega
    go_enter Tryz.func100, Tryz.ntmps100
    go_wp2
    go_ret
    exact ⟨rint (by simp), hb⟩
  · have h' : ¬ l - (s.size : Int) < 0 := by omega
    go_enter Tryz.func100, Tryz.ntmps100
    go_wp2
    go_ret
    exact ⟨rint (by simp), hb⟩
/-- Too great, or not. -/
def SzF (n : Nat) (e : Ending) : Prop := ∃ k : Int, e = .returned (.int .i64 k) ∧ (k < 0 ∨ 0 ≤ k ∧ k ≤ 1048576 ∧ n ≤ 1048576)
set_option maxHeartbeats 1000000 in
theorem szTermS_any (a : Option Addr) (n c : Nat) (ts : List Tm) (l : Int) (w : World) (hI : TmAt w a n ts) (hn : n ≤ 9223372036854775807) (l0 : 0 ≤ l) (l1 : l ≤ 1048576) :
    Calls Tryz.prog 90 #[.slice a n c, .int .i64 l] w fun e w' => SzF n e ∧ Below w.heap.size w w' := by
  by_cases h : l < (n : Int)
  · have h' : l - (n : Int) < 0 := by omega
    clear hI
    go_enter Tryz.func90, Tryz.ntmps90
    go_wp2
    go_ret
    exact ⟨⟨_, rfl, .inl (by omega)⟩, Below.refl _ _⟩
  · have h' : ¬ l - (n : Int) < 0 := by omega
    have hn2 : n ≤ 1048576 := by omega
    obtain ⟨hlen, hsh, hr⟩ := hI
    have HS := hidOf hsh
    have HL := hidOf hlen
    have HR := hidOf hr
    clear hsh hlen hr
    go_enter Tryz.func90, Tryz.ntmps90
    go_wp2
    go_loopw [1, 5] (fun x i wr => ∃ (k : Nat) (y : Int), k ≤ n ∧ i = .int .i64 k ∧ x = .int .i64 y ∧ 0 ≤ y ∧ y ≤ 1048576 ∧ Below w.heap.size w wr) (fun _ i _ => n - (intOf i).toNat)
    case atStart => exact ⟨0, _, Nat.zero_le _, rfl, rfl, by omega, by omega, Below.refl _ _⟩
    case round =>
      rename_i wr
      obtain ⟨k, y, hk, rfl, rfl, y0, y1, hB⟩ := hrel
      by_cases hlt : k < n
      · obtain hr | ⟨b, off, rfl, hb, hcell⟩ := HR.out
        · omega
        obtain ⟨q0, q1, q2⟩ := hcell k hlt
        have hc := cellK q0 (hB.mono (by omega))
        have hc2 := cellK q1 hB
        have hc3 := cellK q2 hB
        have HC := fun u => hidOf (szTerm_any (qg ts k) y u (HS.out _ (qg_mem (by rw [HL.out]; exact hlt))) y0 y1)
        unfold qV at HC
        obtain ⟨z, hz⟩ : ∃ z, qg ts k = z := ⟨_, rfl⟩
        rw [hz] at hc hc2 hc3 HC
        clear hz hcell q0 q1 q2
        go_wp2_with fail
        refine ((HC _).out).mono ?_
        rintro e w1 ⟨rfl, hb1⟩
        have hB1 := bl_trans hB hb1
        clear HC hc hc2 hc3 hb1 hB
        by_cases hg : y < (z.2.2.size : Int)
        · rw [if_pos hg]
          go_wp2
          go_ret
          exact ⟨⟨_, rfl, .inl (by omega)⟩, hB1⟩
        · rw [if_neg hg]
          have hg' : ¬ y - (z.2.2.size : Int) < 0 := by omega
          go_wp2
          go_roundw
          case rel => exact ⟨k + 1, _, by omega, by go_num, rfl, by omega, by omega, hB1⟩
          case measure => simp [intOf]; omega
      · go_wp2
        go_ret
        exact ⟨⟨_, rfl, .inr ⟨y0, y1, hn2⟩⟩, hB⟩

def digB (k : Nat) : ByteArray := strOfNums [48 + (k : Int) % 10]
def mGo : Nat → Nat → ByteArray → ByteArray
  | 0, _, o => o
  | f + 1, k, o => if k = 0 then o else mGo f (k / 10) (digB k ++ o)
/-- The text of a mark. -/
def mkT (k : Nat) : ByteArray := ⟨#[109]⟩ ++ mGo k k ⟨#[]⟩
theorem mGo_size : ∀ (f k : Nat) (o : ByteArray), (mGo f k o).size ≤ f + o.size
  | 0, _, o => by simp [mGo]
  | f + 1, k, o => by
    unfold mGo
    split
    · omega
    · have := mGo_size f (k / 10) (digB k ++ o)
      rw [ByteArray.size_append] at this
      have h1 : (digB k).size = 1 := rfl
      omega
theorem mGo_zero (f : Nat) (o : ByteArray) : mGo f 0 o = o := by cases f <;> simp [mGo]
theorem mkT_size (k : Nat) : (mkT k).size ≤ k + 1 := by
  unfold mkT
  rw [ByteArray.size_append]
  have h1 : (⟨#[109]⟩ : ByteArray).size = 1 := rfl
  have := mGo_size k k ⟨#[]⟩
  have h2 : (⟨#[]⟩ : ByteArray).size = 0 := rfl
  omega
/-- Marks for terms: k, k + 1 and so on, three a term. -/
def marksF (k n : Nat) : List Tm := (List.range n).map fun (i : Nat) => (((k + 3 * i : Nat) : Int), ((k + 3 * i + 1 : Nat) : Int), mkT (k + 3 * i + 2))
theorem marksF_len (k n : Nat) : (marksF k n).length = n := by simp [marksF]
theorem marksF_get {k n j : Nat} (h : j < n) : qg (marksF k n) j = (((k + 3 * j : Nat) : Int), ((k + 3 * j + 1 : Nat) : Int), mkT (k + 3 * j + 2)) := by
  simp [marksF, qg, List.getD, List.getElem?_map, List.getElem?_range h]
theorem marksF_short {k n : Nat} (h : k + 3 * n ≤ 4000000000000000000) : ∀ p, p ∈ marksF k n → p.2.2.size ≤ maxLen := fun p hp => by
  simp only [marksF, List.mem_map, List.mem_range] at hp
  obtain ⟨i, hi, rfl⟩ := hp
  have := mkT_size (k + 3 * i + 2)
  unfold maxLen
  simp only
  omega
/-- Marks are written into a row, place by place. -/
structure MarkF (w : World) (b off n k m : Nat) (wr : World) : Prop where
  ex : w.grownBy wr (some b)
  lt : b < wr.heap.size
  cells : ∀ j, j < n → ∃ v0 v1 v2, wr.cell? ⟨b, off + j * 3, none⟩ = some v0 ∧ wr.cell? ⟨b, off + j * 3 + 1, none⟩ = some v1 ∧ wr.cell? ⟨b, off + j * 3 + 2, none⟩ = some v2 ∧ (j < m → v0 = .int .i64 ((k + 3 * j : Nat) : Int) ∧ v1 = .int .i64 ((k + 3 * j + 1 : Nat) : Int) ∧ v2 = .string (mkT (k + 3 * j + 2)))
  fr : ∀ j, wr.frozen? ⟨b, j, none⟩ = false
theorem grown_keep {w w' u : World} {r : Option Nat} (h : w.grownBy w' r) (hb : Below w'.heap.size w' u) : w.grownBy u r :=
  ⟨hb.os.trans h.os, hb.tape.trans h.tape, hb.output.trans h.output, Nat.le_trans h.size hb.size, fun k hk hne => (hb.block k (Nat.lt_of_lt_of_le hk h.size)).trans (h.block k hk hne)⟩
theorem MarkF.step {w : World} {b off n k m : Nat} {wr : World} (h : MarkF w b off n k m wr) : MarkF w b off n k (m + 1) (set3 wr b (off + m * 3) (.int .i64 ((k + 3 * m : Nat) : Int)) (.int .i64 ((k + 3 * m + 1 : Nat) : Int)) (.string (mkT (k + 3 * m + 2)))) where
  ex := set3_grown h.ex _ _ _
  lt := by rw [set3_size]; exact h.lt
  cells := fun j hj => by
    obtain ⟨v0, v1, v2, h0, h1, h2, hk⟩ := h.cells j hj
    by_cases e : j = m
    · subst e
      obtain ⟨q0, q1, q2⟩ := set3_same (x := .int .i64 ((k + 3 * j : Nat) : Int)) (y := .int .i64 ((k + 3 * j + 1 : Nat) : Int)) (z := .string (mkT (k + 3 * j + 2))) h0 h1 h2
      exact ⟨_, _, _, q0, q1, q2, fun _ => ⟨rfl, rfl, rfl⟩⟩
    · exact ⟨v0, v1, v2, by rw [set3_other (by omega)]; exact h0, by rw [set3_other (by omega)]; exact h1, by rw [set3_other (by omega)]; exact h2, fun hlt => hk (by omega)⟩
  fr := fun j => by rw [set3_fr]; exact h.fr j
/-- What a marking leaves. -/
def TurnF (a : Option Addr) (n : Nat) (w w' : World) : Prop := n = 0 ∧ Below w.heap.size w w' ∨ 0 < n ∧ ∃ b off, a = some ⟨b, off, none⟩ ∧ w.grownBy w' (some b)
end Go.Proofs.YtffpecdjfcgadaaGreatDoor
