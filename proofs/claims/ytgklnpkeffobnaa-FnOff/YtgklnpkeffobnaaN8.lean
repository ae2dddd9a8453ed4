/-
  Walks of the program's tokens: the two that are called at each token, going down.
-/
import Derived.Test.YtgklnpkeffobnaaN7
import Derived.LaidEqlPtr
namespace Go.Proofs.Ytgklnpkeffobnaa
open Go.RowKit Pl Il

theorem infoN : (Try.prog.info? 60).map (fun i => (i.zero, i.size, i.bytes)) = some (some (.agg #[.int .i64 0, .pointer none, .bool false]), 3, 24) := by kernel_rfl
theorem ptr_nil (b : Nat) (w : World) : (binOp .eql 55 (.pointer none) (.pointer (some ⟨b, 0, none⟩))).run Try.prog w = .ok (.bool false) w := rfl
theorem ptr_same (b : Nat) (w : World) : (binOp .eql 55 (.pointer (some ⟨b, 0, none⟩)) (.pointer (some ⟨b, 0, none⟩))).run Try.prog w = .ok (.bool true) w := by
  obtain ⟨i, hi, _, _, _⟩ := info_parts infoN
  exact run_eql_ptr_same w _ Try.underlying55 hi
theorem ptr_other {b b' i i' : Nat} {pv pv' : Value} {q q' : Bool} {w : World} (hne : ¬ b = b') (hb : w.heap[b]? = some (nodeO i pv q)) (hb' : w.heap[b']? = some (nodeO i' pv' q')) :
    (binOp .eql 55 (.pointer (some ⟨b, 0, none⟩)) (.pointer (some ⟨b', 0, none⟩))).run Try.prog w = .ok (.bool false) w := by
  obtain ⟨j, hj, _, hz, _⟩ := info_parts infoN
  exact run_eql_ptr_other w Try.underlying55 hj (by omega) (fun e => hne (congrArg Addr.block e)) hb hb'

set_option maxRecDepth 100000 in
set_option maxHeartbeats 1000000 in
theorem underVisit_any {B : Nat} {w0 : World} {B0 N : Nat} {lv : Value} {bs : List Nat} {ps : List Int} {gv : Value} {qs : List Bool} {gs : List Int} {w : World} (h : DMem B w0 B0 N lv bs ps gv qs gs w) (i : Nat) (hi : i < bs.length) (hs : gs.length + 1 ≤ 4194304) :
    Calls Try.prog 45 #[nodeP (bs.getD i 0), .pointer (some ⟨N, 0, none⟩)] w fun e w' => e = .returned (.tuple #[]) ∧ (∃ gv', DMem B w0 B0 N lv bs ps gv' qs (gs ++ [(i : Int)]) w') ∧ Stays w w' := by
  have hd := h.keep (Below.refl _ _).drew
  obtain ⟨g, c, w1, hr, c1, f1, hD, hS⟩ := hd.push (i : Int) hs
  have hn := h.bn
  have hc : w.cell? ⟨N, 0, none⟩ = some gv := by simp [World.cell?, hn]
  have hco : ∀ o, (w.alloc o).cell? ⟨N, 0, none⟩ = some gv := fun o => by rw [World.cell?_alloc_old _ _ _ (Nat.ne_of_lt (lt_of_some hn))]; exact hc
  obtain ⟨n0, _, _, _⟩ := node_cells (h.nodes.blk i hi)
  obtain ⟨a0, c0, rfl, _⟩ := own_of h.gone gs rfl
  have Hr := hidOf hr
  have HD := hidOf hD
  have HS := hidOf hS
  generalize bs.getD i 0 = b at n0
  unfold nodeP
  clear hr hD hS hd h hn
  generalize gs.length = m at *
  go_enter Try.func45, Try.ntmps45
  go_wp2_with fail
  go_region_law (refine step_append_run (by rfl) _ _ 24 (by rfl) (.slice a0 m c0) (.slice (some ⟨w.heap.size, 0, none⟩) 1 1) _ (by rfl) (by rfl) Hr.out ?_)
  all_goals go_wp2
  all_goals go_end0
  all_goals exact ⟨rfl, ⟨_, HD.out⟩, HS.out⟩
set_option maxRecDepth 100000 in
set_option maxHeartbeats 1000000 in
theorem cancelVisit_any {B : Nat} {w0 : World} {B0 N : Nat} {lv : Value} {bs : List Nat} {ps : List Int} {gv : Value} {qs : List Bool} {gs : List Int} {w : World} (h : DMem B w0 B0 N lv bs ps gv qs gs w) (i : Nat) (hi : i < bs.length) (hs : gs.length + 1 ≤ 4194304) :
    Calls Try.prog 39 #[nodeP (bs.getD i 0), .pointer (some ⟨N, 0, none⟩)] w fun e w' => e = .returned (.tuple #[]) ∧ (∃ gv', DMem B w0 B0 N lv bs ps gv' (cancelStep (qs, gs) (i : Int)).1 (cancelStep (qs, gs) (i : Int)).2 w') ∧ Stays w w' := by
  have hbk := h.nodes.blk i hi
  obtain ⟨n0, _, n2, nf⟩ := node_cells hbk
  have nf2 := nf 2
  cases hq : qs.getD i false
  · rw [hq] at n2
    rw [cancel_no (s := (qs, gs)) (by rw [Int.toNat_natCast]; exact hq), Int.toNat_natCast]
    obtain ⟨hM, hS1⟩ := h.mark i hi
    generalize hX : w.setCell ⟨bs.getD i 0, 2, none⟩ (.bool true) = X at hM hS1
    have hMd := hM.keep (Below.refl _ _).drew
    obtain ⟨g, c, w1, hr, c1, f1, hD, hS2⟩ := hMd.push (i : Int) hs
    have hn := hM.bn
    have hc : X.cell? ⟨N, 0, none⟩ = some gv := by simp [World.cell?, hn]
    have hco : ∀ o, (X.alloc o).cell? ⟨N, 0, none⟩ = some gv := fun o => by rw [World.cell?_alloc_old _ _ _ (Nat.ne_of_lt (lt_of_some hn))]; exact hc
    obtain ⟨m0, _, _, _⟩ := node_cells (hM.nodes.blk i hi)
    obtain ⟨a0, c0, rfl, _⟩ := own_of h.gone gs rfl
    have Hr := hidOf hr
    have HD := hidOf hD
    have HS := hidOf (hS1.trans hS2)
    generalize bs.getD i 0 = b at n0 n2 nf2 m0 hX
    unfold nodeP
    clear hr hD hS1 hS2 hM hMd h hn hbk nf
    generalize gs.length = m at *
    go_enter Try.func39, Try.ntmps39
    go_wp2_with fail
    go_region_law (refine step_append_run (by rfl) _ _ 24 (by rfl) (.slice a0 m c0) (.slice (some ⟨X.heap.size, 0, none⟩) 1 1) _ (by rfl) (by rfl) Hr.out ?_)
    all_goals go_wp2
    all_goals go_end0
    all_goals exact ⟨rfl, ⟨_, HD.out⟩, HS.out⟩
  · rw [hq] at n2
    rw [cancel_yes (s := (qs, gs)) (by rw [Int.toNat_natCast]; exact hq)]
    have HD := hidOf h
    generalize bs.getD i 0 = b at n0 n2
    unfold nodeP
    clear h hbk nf nf2
    go_enter Try.func39, Try.ntmps39
    go_wp2
    go_end0
    exact ⟨rfl, ⟨_, HD.out⟩, fun b cs t hb _ => hb⟩
end Go.Proofs.Ytgklnpkeffobnaa
