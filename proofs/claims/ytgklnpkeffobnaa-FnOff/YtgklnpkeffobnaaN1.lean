/-
  The program's tokens: nodes that know who is above them; the one of a number; one that is born.
-/
import Derived.Test.YtgklnpkeffobnaaBB5
namespace Go.Proofs.Ytgklnpkeffobnaa
open Go.RowKit Pl Il

/-- The pointer to the node in block b. -/
def nodeP (b : Nat) : Value := .pointer (some ⟨b, 0, none⟩)
/-- The pointer to the node of parent p, or nil. -/
def parV (bs : List Nat) (p : Int) : Value := if p = -1 then .pointer none else nodeP (bs.getD p.toNat 0)
/-- A node in memory. -/
def nodeO (i : Nat) (par : Value) (q : Bool) : Obj := .cells #[.int .i64 (i : Int), par, .bool q] 60 (0, 0)
theorem infoNP : (Try.prog.info? 55).map (fun i => (i.zero, i.size, i.bytes)) = some (some (.pointer none), 1, 8) := by kernel_rfl

/-- The list of nodes: a row of the call's own. -/
def NRow (B : Nat) (w : World) (v : Value) (bs : List Nat) : Prop := w.ownsRow B 55 1 v bs.length (bs.map nodeP)
theorem NRow.parts {B : Nat} {w : World} {v : Value} {bs : List Nat} (h : NRow B w v bs) : ∃ a c, v = .slice a bs.length c ∧
    (bs.length = 0 ∨ ∃ g, a = some ⟨g, 0, none⟩ ∧ B ≤ g ∧ g < w.heap.size ∧ ∀ k, k < bs.length → w.cell? ⟨g, k, none⟩ = some (nodeP (bs.getD k 0))) := by
  obtain ⟨hl, ⟨rfl, e⟩ | ⟨g, cap, cur, rfl, hB, hg, hc, hm, hs, ht⟩⟩ := h
  · exact ⟨none, 0, by rw [e], .inl e⟩
  · have hlt : g < w.heap.size := by
      rcases Nat.lt_or_ge g w.heap.size with k | k
      · exact k
      · rw [Array.getElem?_eq_none k] at hg; cases hg
    refine ⟨_, _, rfl, .inr ⟨g, rfl, hB, hlt, fun k hk => ?_⟩⟩
    rw [cell_of_row w g k cur _ (0, 0) hg]
    have e : (bs.map nodeP)[k]? = (cur.toList.take (bs.length * 1))[k]? := by rw [ht]
    rw [List.getElem?_take_of_lt (by omega)] at e
    rw [← Array.getElem?_toList, ← e]
    simp [List.getD, List.getElem?_eq_getElem hk]
theorem NRow.keep {B : Nat} {w w' : World} {v : Value} {bs : List Nat} (h : NRow B w v bs) (hb : Below w.heap.size w w') : NRow B w' v bs := by
  refine World.ownsRow.kept h (row := none) ⟨hb.os, hb.tape, hb.output, hb.size, fun k hk _ => hb.block k hk⟩ ?_
  cases h : v.ownBlock
  · exact .inl rfl
  · exact .inr (by simp)

theorem tokenAt_no (a : Option Addr) (n c : Nat) (x : Int) (w : World) (hx : x < 0 ∨ (n : Int) ≤ x) :
    Calls Try.prog 37 #[.slice a n c, .int .i64 x] w fun e w' => e = .returned (.tuple #[.pointer none, .bool false]) ∧ w' = w := by
  by_cases h : x < 0
  · clear hx
    go_enter Try.func37, Try.ntmps37
    go_wp2
    go_ret2
    exact ⟨rfl, rfl⟩
  · have h2 : (n : Int) ≤ x := by omega
    clear hx
    go_enter Try.func37, Try.ntmps37
    go_wp2
    go_ret2
    exact ⟨rfl, rfl⟩
theorem tokenAt_yes (g n c k : Nat) (v : Value) (w : World) (hk : k < n) (hc : w.cell? ⟨g, k, none⟩ = some v) :
    Calls Try.prog 37 #[.slice (some ⟨g, 0, none⟩) n c, .int .i64 (k : Int)] w fun e w' => e = .returned (.tuple #[v, .bool true]) ∧ w' = w := by
  have h1 : ¬ (k : Int) < 0 := by omega
  have h2 : ¬ (n : Int) ≤ (k : Int) := by omega
  go_enter Try.func37, Try.ntmps37
  go_wp2
  go_ret2
  exact ⟨rfl, rfl⟩

theorem born_top (a : Option Addr) (n c : Nat) (w : World) :
    Calls Try.prog 46 #[.slice a n c, .int .i64 (-1)] w fun e w' => e = .returned (.tuple #[nodeP w.heap.size, .bool true]) ∧ w' = w.alloc (nodeO n (.pointer none) false) := by
  go_enter Try.func46, Try.ntmps46
  go_wp2
  go_ret2
  exact ⟨rfl, rfl⟩
theorem born_no (a : Option Addr) (n c : Nat) (x : Int) (w : World) (hx : x < -1 ∨ (n : Int) ≤ x) :
    Calls Try.prog 46 #[.slice a n c, .int .i64 x] w fun e w' => e = .returned (.tuple #[.pointer none, .bool false]) ∧ w' = w.alloc (nodeO n (.pointer none) false) := by
  have hne : (x == -1) = false := by simp; omega
  have hx' : x < 0 ∨ (n : Int) ≤ x := by omega
  have hq := tokenAt_no a n c x
  clear hx
  go_enter Try.func46, Try.ntmps46
  go_wp2_with fail
  refine (hq _ hx').mono ?_
  rintro e w1 ⟨rfl, rfl⟩
  go_wp2
  go_ret2
  exact ⟨rfl, rfl⟩
theorem born_under (g n c k b : Nat) (i : Nat) (pv : Value) (q : Bool) (w : World) (hk : k < n) (hg : g < w.heap.size) (hc : w.cell? ⟨g, k, none⟩ = some (nodeP b)) (hb : w.heap[b]? = some (nodeO i pv q)) :
    Calls Try.prog 46 #[.slice (some ⟨g, 0, none⟩) n c, .int .i64 (k : Int)] w fun e w' => e = .returned (.tuple #[nodeP w.heap.size, .bool true]) ∧ w' = w.alloc (nodeO n (nodeP b) q) := by
  have hne : ((k : Int) == -1) = false := by simp
  have hbl : b < w.heap.size := by
    rcases Nat.lt_or_ge b w.heap.size with k | k
    · exact k
    · rw [Array.getElem?_eq_none k] at hb; cases hb
  have hq : ∀ o, (w.alloc o).cell? ⟨g, k, none⟩ = some (nodeP b) := fun o => by rw [World.cell?_alloc_old _ _ _ (Nat.ne_of_lt hg)]; exact hc
  have hb2 : w.cell? ⟨b, 2, none⟩ = some (.bool q) := by simp [World.cell?, hb, nodeO]
  have hbo : ∀ o, (w.alloc o).cell? ⟨b, 2, none⟩ = some (.bool q) := fun o => by rw [World.cell?_alloc_old _ _ _ (Nat.ne_of_lt hbl)]; exact hb2
  have hcall := fun o => tokenAt_yes g n c k (nodeP b) (w.alloc o) hk (hq o)
  have HC := hidOf hcall
  clear hb hb2 hq hc hcall
  go_enter Try.func46, Try.ntmps46
  go_wp2_with fail
  refine (HC.out _).mono ?_
  rintro e w1 ⟨rfl, rfl⟩
  unfold nodeP
  go_wp2
  go_ret2
  exact ⟨rfl, rfl⟩
end Go.Proofs.Ytgklnpkeffobnaa
