/-
  The program's notifications: grants left out, grants made, a telling placed.
-/
import Derived.Test.YtfgknbflgmblmaaV3
namespace Go.Proofs.Ytfgknbflgmblmaa
open Go.RowKit Go.Maps Pl Il

/-- One grant is appended to an own row. -/
theorem append_gr1 (B m : Nat) (v : Value) (ys : List (Int × Bool)) (g : Int × Bool) (w : World) (ho : w.ownsRow B 44 2 v m (gflat ys)) (hB : B ≤ w.heap.size) (hs : m + 1 ≤ 4194304) :
    ∃ (v' : Value) (w' : World), (Builtin.append_ #[25, 25] 25 #[v, .slice (some ⟨w.heap.size, 0, none⟩) 1 1]).run Try.prog (w.alloc (.cells #[.int .i64 g.1, .bool g.2] 44)) = .ok v' w' ∧
      w'.ownsRow B 44 2 v' (m + 1) (gflat (ys ++ [g])) ∧ w.grownBy w' v.ownBlock := by
  have hI : GrAt (w.alloc (.cells #[.int .i64 g.1, .bool g.2] 44)) (some ⟨w.heap.size, 0, none⟩) 1 [g] :=
    ⟨rfl, .inr ⟨w.heap.size, 0, rfl, by simp, fun i hi => by
      obtain rfl : i = 0 := by omega
      simp [gg]⟩⟩
  have hb0 : Below w.heap.size w (w.alloc (.cells #[.int .i64 g.1, .bool g.2] 44)) := bl_alloc (Below.refl _ _) _
  obtain ⟨v', w', hr, ho', hg⟩ := append_grs B v m ys _ 1 1 [g] _ (ownsRow_keep ho hb0) (by simp; omega) hI (by omega)
  refine ⟨v', w', hr, ho', ?_⟩
  exact ⟨hg.os.trans hb0.os, hg.tape.trans hb0.tape, hg.output.trans hb0.output, Nat.le_trans hb0.size hg.size, fun k hk hne => (hg.block k (Nat.lt_of_lt_of_le hk hb0.size) hne).trans (hb0.block k hk)⟩
theorem below_grown {B : Nat} {w0 w w' : World} {v : Value} {n s : Nat} {t : TypeId} {xs : List Value} (h : Below B w0 w) (ho : w.ownsRow B t s v n xs) (hg : w.grownBy w' v.ownBlock) (hB : B ≤ w.heap.size) : Below B w0 w' :=
  h.grown hg hB (fun k hk => (ho.lt k hk).1)
set_option maxHeartbeats 1000000 in
theorem without_any (a : Option Addr) (n cap : Nat) (gs : List (Int × Bool)) (g1 : Int) (gb : Bool) (w : World) (hI : GrAt w a n gs) (hn : n ≤ 2097152) :
    Calls Try.prog 45 #[.slice a n cap, .agg #[.int .i64 g1, .bool gb]] w fun e w' => ∃ a' m c', e = .returned (.slice a' m c') ∧ w'.ownsRow w.heap.size 44 2 (.slice a' m c') m (gflat (gs.filter fun h => !(h.1 == g1 && h.2 == gb))) ∧ Below w.heap.size w w' := by
  obtain ⟨W, hW⟩ : ∃ W, W = w.alloc (.cells #[.int .i64 g1, .bool gb] 44) := ⟨_, rfl⟩
  have b0 : Below w.heap.size w W := by subst hW; exact bl_alloc (Below.refl _ _) _
  have hc : W.cell? ⟨w.heap.size, 0, none⟩ = some (.int .i64 g1) ∧ W.cell? ⟨w.heap.size, 1, none⟩ = some (.bool gb) ∧ W.heap.size = w.heap.size + 1 := by subst hW; simp
  have hlen := hI.len
  have HC := hidOf hc
  have HI := hidOf (hI.keep b0)
  have HL := hidOf hlen
  have B0 := hidOf b0
  clear hI hc hlen b0
  go_enter Try.func45, Try.ntmps45
  go_wp2_with fail
  rw [← hW]
  go_loopw [5, 10] (fun v i wr => ∃ k m : Nat, k ≤ n ∧ m ≤ k ∧ i = .int .i64 k ∧ wr.ownsRow W.heap.size 44 2 v m (gflat ((gs.take k).filter fun h => !(h.1 == g1 && h.2 == gb))) ∧ Below W.heap.size W wr) (fun _ i _ => n - (intOf i).toNat)
  case atStart => exact ⟨0, 0, Nat.zero_le _, Nat.zero_le _, rfl, World.ownsRow_nil _ _ _ _, Below.refl _ _⟩
  case round =>
    rename_i wr
    obtain ⟨k, m, hk, hm, rfl, ho, hbr⟩ := hrel
    obtain ⟨h0, h1, hs⟩ := HC.out
    have v0 := cellB h0 hbr
    have v1 := cellB h1 hbr
    have hsz := hbr.size
    by_cases hlt : k < n
    · obtain ⟨_, h' | ⟨b, off, rfl, hb, hcell⟩⟩ := HI.out.keep hbr
      · omega
      have hkl : k < gs.length := by rw [HL.out]; exact hlt
      obtain ⟨c1, c2⟩ := hcell k hlt
      have htk := take_gg hkl
      obtain ⟨⟨y1, yb⟩, hy⟩ : ∃ y, gg gs k = y := ⟨_, rfl⟩
      rw [hy] at c1 c2 htk
      simp only at c1 c2
      have bA : Below wr.heap.size wr (wr.alloc (.cells #[.int .i64 y1, .bool yb] 44)) := bl_alloc (Below.refl _ _) _
      have hoA := ownsRow_keep ho bA
      obtain ⟨v', w', hr, ho', hg'⟩ := append_gr1 W.heap.size m u5 _ (y1, yb) _ hoA (by simp; omega) (by omega)
      have hB' := below_grown (bl_trans hbr bA) hoA hg' (by simp; omega)
      rw [show (wr.alloc (.cells #[.int .i64 y1, .bool yb] 44)).heap.size = wr.heap.size + 1 by simp] at hr
      have d0 : ∀ o, (wr.alloc o).cell? ⟨w.heap.size, 0, none⟩ = some (.int .i64 g1) := fun o => by rw [World.cell?_alloc_old _ _ _ (Nat.ne_of_lt (World.block_lt_of_cell? wr _ v0))]; exact v0
      have d1 : ∀ o, (wr.alloc o).cell? ⟨w.heap.size, 1, none⟩ = some (.bool gb) := fun o => by rw [World.cell?_alloc_old _ _ _ (Nat.ne_of_lt (World.block_lt_of_cell? wr _ v1))]; exact v1
      have hki : (0 : Int) ≤ (k : Int) ∧ (k : Int) < (n : Int) := by omega
      have Hr := hidOf hr
      have HO := hidOf hoA
      have HO' := hidOf ho'
      have HB := hidOf (bl_trans hbr bA)
      have HB' := hidOf hB'
      have HTk := hidOf htk
      clear hy hcell htk hr ho ho' hg' hB' hoA bA hbr h0 h1 hs hsz hkl
      cases hq : (!(y1 == g1 && yb == gb))
      · have e1 := neqG y1 g1 yb gb false hq
        go_wp2
        go_roundw
        case rel => exact ⟨k + 1, m, by omega, by omega, by go_num, by rw [HTk.out, List.filter_append]; simp only [List.filter_cons, hq, List.filter_nil, List.append_nil, Bool.false_eq_true, if_false]; exact HO.out, HB.out⟩
        case measure => simp [intOf]; omega
      · have e1 := neqG y1 g1 yb gb true hq
        go_wp2_with (at_builtin; refine wpList_append_run rfl _ _ 25 rfl _ _ _ rfl rfl Hr.out ?_)
        go_roundw
        case rel => exact ⟨k + 1, m + 1, by omega, by omega, by go_num, by rw [HTk.out, List.filter_append]; simp only [List.filter_cons, hq, List.filter_nil, if_true]; exact HO'.out, HB'.out⟩
        case measure => simp [intOf]; omega
    · have hke : gs.take k = gs := List.take_of_length_le (by rw [HL.out]; omega)
      rw [hke] at ho
      obtain ⟨a', c', rfl, _, _⟩ := ownG_of ho _ rfl
      have hO := hidOf (own_mono1 ho (B' := w.heap.size) (by omega))
      have HB := hidOf (B0.out.trans (hbr.mono B0.out.size))
      clear ho hbr h0 h1 hs hsz hke
      go_wp2
      go_ret
      exact ⟨_, _, _, rfl, hO.out, HB.out⟩
end Go.Proofs.Ytfgknbflgmblmaa
