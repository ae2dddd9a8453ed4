/-
  Walks of the program's tokens: tokens out of nodes.
-/
import Derived.Test.YtgklnpkeffobnaaN5
namespace Go.Proofs.Ytgklnpkeffobnaa
open Go.RowKit Pl Il

theorem node_cells {w : World} {b i : Nat} {pv : Value} {q : Bool} (h : w.heap[b]? = some (nodeO i pv q)) : w.cell? ⟨b, 0, none⟩ = some (.int .i64 (i : Int)) ∧ w.cell? ⟨b, 1, none⟩ = some pv ∧ w.cell? ⟨b, 2, none⟩ = some (.bool q) ∧ ∀ o, w.frozen? ⟨b, o, none⟩ = false := by
  refine ⟨?_, ?_, ?_, fun o => ?_⟩ <;> simp [World.cell?, World.frozen?, h, nodeO]

theorem lt_of_cell {w : World} {b o : Nat} {v : Value} (h : w.cell? ⟨b, o, none⟩ = some v) : b < w.heap.size := by
  rcases Nat.lt_or_ge b w.heap.size with k | k
  · exact k
  · simp [World.cell?, Array.getElem?_eq_none k] at h
/-- What is known when k nodes have become tokens. -/
structure OTo (N : Nat) (W1 : World) (ps : List Int) (qs : List Bool) (k : Nat) (v1 v2 : Value) (wr : World) : Prop where
  tok : TokB N (N + 1) wr v1 v2 k k (ps.take k) (qs.take k)
  below : Below N W1 wr
/-- What a round of tokensOf does to memory. -/
theorem OTo.step {N : Nat} {W1 : World} {ps : List Int} {qs : List Bool} {k : Nat} {v1 v2 : Value} {wr : World} (h : OTo N W1 ps qs k v1 v2 wr) (hk : k < ps.length) (hk' : k < qs.length) (hs : k + 1 ≤ 4194304) {p : Int} {q : Bool} (hp : ps.getD k 0 = p) (hq : qs.getD k false = q) :
    ∃ (g c : Nat) (w1 : World) (g2 c2 : Nat) (w2 : World),
      (Builtin.append_ #[24, 24] 24 #[v1, .slice (some ⟨wr.heap.size, 0, none⟩) 1 1]).run Try.prog (wr.alloc (.cells #[.int .i64 p] 3)) = .ok (.slice (some ⟨g, 0, none⟩) (k + 1) c) w1 ∧ w1.cell? ⟨N, 0, none⟩ = some v1 ∧ w1.frozen? ⟨N, 0, none⟩ = false ∧
      Below N wr (w1.setCell ⟨N, 0, none⟩ (.slice (some ⟨g, 0, none⟩) (k + 1) c)) ∧ (w1.setCell ⟨N, 0, none⟩ (.slice (some ⟨g, 0, none⟩) (k + 1) c)).cell? ⟨N, 1, none⟩ = some v2 ∧
      (Builtin.append_ #[25, 25] 25 #[v2, .slice (some ⟨(w1.setCell ⟨N, 0, none⟩ (.slice (some ⟨g, 0, none⟩) (k + 1) c)).heap.size, 0, none⟩) 1 1]).run Try.prog ((w1.setCell ⟨N, 0, none⟩ (.slice (some ⟨g, 0, none⟩) (k + 1) c)).drew.alloc (.cells #[.bool q] 4)) = .ok (.slice (some ⟨g2, 0, none⟩) (k + 1) c2) w2 ∧
      w2.cell? ⟨N, 1, none⟩ = some v2 ∧ w2.frozen? ⟨N, 1, none⟩ = false ∧ OTo N W1 ps qs (k + 1) (.slice (some ⟨g, 0, none⟩) (k + 1) c) (.slice (some ⟨g2, 0, none⟩) (k + 1) c2) (w2.setCell ⟨N, 1, none⟩ (.slice (some ⟨g2, 0, none⟩) (k + 1) c2)) := by
  obtain ⟨g, c, w1, hr1, c1, f1, hT1, hb1⟩ := h.tok.step1 p hs
  have hT1d := hT1.keep (Below.refl _ _).drew
  obtain ⟨g2, c2, w2, hr2, c2', f2, hT2, hb2⟩ := hT1d.step2 q hs
  refine ⟨g, c, w1, g2, c2, w2, hr1, c1, f1, hb1, hT1.box.c1, hr2, c2', f2, ?_, ?_⟩
  · rw [take_more hk hp, take_more hk' hq] at hT2
    exact hT2
  · exact (h.below.trans hb1).trans ((Below.refl N (w1.setCell ⟨N, 0, none⟩ (.slice (some ⟨g, 0, none⟩) (k + 1) c))).drew.trans hb2)

set_option maxHeartbeats 4000000 in
set_option maxRecDepth 100000 in
theorem tokensOf_any (B : Nat) (a : Option Addr) (c : Nat) (bs : List Nat) (ps : List Int) (qs : List Bool) (w : World) (hr : NRow B w (.slice a bs.length c) bs) (hN : Nodes B w bs ps qs) (hn : bs.length ≤ 2097152) :
    Calls Try.prog 41 #[.slice a bs.length c] w fun e w' => ∃ a1 c1 a2 c2, e = .returned (.agg #[.slice a1 bs.length c1, .slice a2 bs.length c2]) ∧ TokOwn w.heap.size w' a1 bs.length ps a2 bs.length qs ∧ Below w.heap.size w w' := by
  generalize hW0 : w.alloc (.cells #[.slice none 0 0, .slice none 0 0] 27) = W0
  generalize hW1 : W0.alloc (.cells #[.slice none 0 0, .slice none 0 0] 27) = W1
  have B0 : Below w.heap.size w W0 := by subst hW0; exact bl_alloc (Below.refl _ _) _
  have B1 : Below w.heap.size w W1 := by subst hW1; exact bl_alloc B0 _
  have s0 : W0.heap.size = w.heap.size + 1 := by subst hW0; simp
  have s1 : W1.heap.size = w.heap.size + 2 := by subst hW1; simp [s0]
  have x0 : Box2 w.heap.size (.slice none 0 0) (.slice none 0 0) W1 := by subst hW1 hW0; exact (Box2.new w _ _ _).alloc _
  have x1 : Box2 (w.heap.size + 1) (.slice none 0 0) (.slice none 0 0) W1 := by subst hW1; rw [← s0]; exact Box2.new W0 _ _ _
  have hS : OTo (w.heap.size + 1) W1 ps qs 0 (.slice none 0 0) (.slice none 0 0) W1 := ⟨⟨x1, by omega, by omega, ⟨rfl, .inl ⟨rfl, rfl⟩⟩, ⟨rfl, .inl ⟨rfl, rfl⟩⟩⟩, Below.refl _ _⟩
  have hlp := hN.lp
  have hlq := hN.lq
  have HS := hidOf hS
  have X0 := hidOf x0
  have HN := hidOf hN
  have HR := hidOf hr
  have S1 := hidOf s1
  generalize hnn : bs.length = n at *
  have HL := hidOf hnn
  clear hS x0 x1 hr hN s1 B0 hnn
  go_enter Try.func41, Try.ntmps41
  go_wp2
  go_loopw [9] (fun i wr => ∃ (k : Nat) (v1 v2 : Value), k ≤ n ∧ i = .int .i64 k ∧ OTo (w.heap.size + 1) W1 ps qs k v1 v2 wr) (fun i _ => n - (intOf i).toNat)
  case atStart => exact ⟨0, _, _, Nat.zero_le _, rfl, HS.out⟩
  case round =>
    rename_i wr
    obtain ⟨k, v1, v2, hk, rfl, hO⟩ := hrel
    clear HS
    obtain ⟨a1, c1, rfl⟩ := hO.tok.form1
    obtain ⟨a2, c2, rfl⟩ := hO.tok.form2
    have hbw : Below w.heap.size w wr := B1.trans (hO.below.mono (by omega))
    by_cases hlt : k < n
    · have hNw := HN.out.keep hbw
      obtain ⟨a', c', e', h0 | ⟨g, ea, _, hg, hcl⟩⟩ := (HR.out.keep hbw).parts
      · have := HL.out; omega
      · simp only [Value.slice.injEq] at e'
        obtain ⟨e1, e1a, e1b⟩ := e'
        clear e1a e1b
        rw [ea] at e1
        subst e1
        have hkl : k < bs.length := by rw [HL.out]; exact hlt
        have hc := hcl k hkl
        have hlb := HN.out.lt k hkl
        have hbk := hNw.blk k hkl
        obtain ⟨hpr1, hpr2⟩ := hNw.par k hkl
        generalize hp : ps.getD k 0 = p at hbk hpr1 hpr2
        generalize hq : qs.getD k false = q at hbk
        obtain ⟨g1, d1, w1, g2, d2, w2, hr1, e1, f1, hb1, e2, hr2, e3, f3, hO'⟩ := hO.step (by omega) (by omega) (by omega) hp hq
        obtain ⟨n0, n1, n2, _⟩ := node_cells hbk
        generalize hb : bs.getD k 0 = b at hc hlb hbk n0 n1 n2
        generalize hX : w1.setCell ⟨w.heap.size + 1, 0, none⟩ (.slice (some ⟨g1, 0, none⟩) (k + 1) d1) = X at *
        have m2 : X.cell? ⟨b, 2, none⟩ = some (.bool q) := by rw [hb1.cell (p := ⟨b, 2, none⟩) (show b < w.heap.size + 1 by omega)]; exact n2
        have hXl : w.heap.size + 1 < X.heap.size := lt_of_cell e2
        have e2o : ∀ o, (X.alloc o).cell? ⟨w.heap.size + 1, 1, none⟩ = some (.slice a2 k c2) := fun o => by rw [World.cell?_alloc_old _ _ _ (Nat.ne_of_lt hXl)]; exact e2
        obtain ⟨_, t0, t1, _⟩ := hO.tok.box
        have Hr1 := hidOf hr1
        have Hr2 := hidOf hr2
        have HO' := hidOf hO'
        have hki : (k : Int) < (n : Int) := by omega
        unfold nodeP at hc
        by_cases h1 : p = -1
        · have hpv : parV bs p = .pointer none := by unfold parV; rw [if_pos h1]
          rw [hpv] at n1
          subst h1
          clear hbk hcl hNw hr1 hr2 hO' hO hp hq hb hpv hpr1 hpr2 hb1 hbw n2 hlb hkl
          go_wp2_with (first | (at_builtin; refine wpList_append_run rfl _ _ 24 rfl _ _ _ rfl rfl Hr1.out ?_) | fail)
          go_region_law (refine step_append_run (by rfl) _ _ 25 (by rfl) (.slice a2 k c2) (.slice (some ⟨X.heap.size, 0, none⟩) 1 1) _ (by rfl) (by rfl) Hr2.out ?_)
          all_goals go_wp2
          all_goals go_roundw
          all_goals first
            | exact ⟨k + 1, _, _, by omega, by go_num, HO'.out⟩
            | (simp [intOf]; omega)
        · obtain ⟨j, rfl⟩ := Int.eq_ofNat_of_zero_le (show 0 ≤ p by omega)
          have hjl : j < bs.length := by omega
          have hpv : parV bs (j : Int) = nodeP (bs.getD j 0) := by unfold parV; rw [if_neg h1, Int.toNat_natCast]
          rw [hpv] at n1
          obtain ⟨j0, _, _, _⟩ := node_cells (hNw.blk j hjl)
          generalize bs.getD j 0 = bj at n1 j0
          unfold nodeP at n1
          clear hbk hcl hNw hr1 hr2 hO' hO hp hq hb hpv hpr1 hpr2 hb1 hbw n2 hlb hkl hjl h1
          go_wp2_with (first | (at_builtin; refine wpList_append_run rfl _ _ 24 rfl _ _ _ rfl rfl Hr1.out ?_) | fail)
          go_region_law (refine step_append_run (by rfl) _ _ 25 (by rfl) (.slice a2 k c2) (.slice (some ⟨X.heap.size, 0, none⟩) 1 1) _ (by rfl) (by rfl) Hr2.out ?_)
          all_goals go_wp2
          all_goals go_roundw
          all_goals first
            | exact ⟨k + 1, _, _, by omega, by go_num, HO'.out⟩
            | (simp [intOf]; omega)
    · have hkn : k = n := by omega
      have hT := hO.tok
      rw [List.take_of_length_le (by omega), List.take_of_length_le (by omega)] at hT
      obtain ⟨_, t0, t1, _⟩ := hT.box
      have hR0 := hO.below.block w.heap.size (by omega)
      have hF := ((hT.own.far w.heap.size 0 (by omega) (.slice a1 k c1)).far w.heap.size 1 (by omega) (.slice a2 k c2)).mono (B' := w.heap.size) (by omega)
      have hBF := (hbw.setCell (p := ⟨w.heap.size, 0, none⟩) (Nat.le_refl _) (.slice a1 k c1)).setCell (p := ⟨w.heap.size, 1, none⟩) (Nat.le_refl _) (.slice a2 k c2)
      have y0 : wr.cell? ⟨w.heap.size, 0, none⟩ = some (.slice none 0 0) := by rw [← X0.out.c0]; exact World.cell?_of_block hR0
      have y1 : wr.cell? ⟨w.heap.size, 1, none⟩ = some (.slice none 0 0) := by rw [← X0.out.c1]; exact World.cell?_of_block hR0
      have z0 : wr.frozen? ⟨w.heap.size, 0, none⟩ = false := by rw [← X0.out.fr 0]; exact World.frozen?_of_block hR0
      have z1 : wr.frozen? ⟨w.heap.size, 1, none⟩ = false := by rw [← X0.out.fr 1]; exact World.frozen?_of_block hR0
      have HF := hidOf hF
      have HBF := hidOf hBF
      clear hF hBF hT hR0 hO hbw
      subst hkn
      go_wp2
      exact bodyPost_ret (v := .agg #[.slice a1 k c1, .slice a2 k c2]) (by simp [results, Try.results41, go_sem, y0, y1]) rfl ⟨_, _, _, _, rfl, HF.out, HBF.out⟩
end Go.Proofs.Ytgklnpkeffobnaa
