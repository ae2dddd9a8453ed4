/-
  Walks of the specification's draws: a line.
-/
import Derived.Test.YtlodnmbkicmjfaaE4
import Derived.Test.YtlodnmbkicmjfaaQ2
namespace Go.Proofs.Ytlodnmbkicmjfaa
open Go.RowKit Pl Dr Il

theorem Drawn.grown {c : Nat} {a : Option Addr} {len cap : Nat} {w u u' : World} {g : Nat} (h : Drawn c a len cap w u) (hC : Cur c a len cap w) (hg : u.grownBy u' (some g)) (hge : w.heap.size ≤ g) : Drawn c a len cap w u' := by
  have hlt := hC.lt
  have key : ∀ b, b < u.heap.size → b ≠ g → u'.heap[b]? = u.heap[b]? := fun b hb hn => hg.block b hb (by simpa using hn)
  have hcell : ∀ o, u'.cell? ⟨c, o, none⟩ = u.cell? ⟨c, o, none⟩ := fun o => World.cell?_of_block (key c h.cur.lt (by omega))
  have hfr : ∀ o, u'.frozen? ⟨c, o, none⟩ = u.frozen? ⟨c, o, none⟩ := fun o => World.frozen?_of_block (key c h.cur.lt (by omega))
  refine ⟨⟨Nat.lt_of_lt_of_le h.cur.lt hg.size, ?_, by rw [hcell]; exact h.cur.at0, by rw [hcell]; exact h.cur.at1, by rw [hcell]; exact h.cur.at2, by rw [hfr]; exact h.cur.fr1, by rw [hfr]; exact h.cur.fr2⟩, ?_⟩
  · obtain ⟨hl, hm, k | ⟨b, off, rfl, hb, hn, hc⟩⟩ := h.cur.bytes
    · exact ⟨hl, hm, .inl k⟩
    · obtain ⟨_, _, k | ⟨b', off', e, hb', _⟩⟩ := hC.bytes
      · exact ⟨hl, hm, .inl k⟩
      · cases e
        refine ⟨hl, hm, .inr ⟨b, off, rfl, Nat.lt_of_lt_of_le hb hg.size, hn, fun i hi => ?_⟩⟩
        have : u'.cell? ⟨b, off + i, none⟩ = u.cell? ⟨b, off + i, none⟩ := World.cell?_of_block (key b hb (by omega))
        rw [this]; exact hc i hi
  · refine ⟨hg.os.trans h.ex.os, hg.tape.trans h.ex.tape, hg.output.trans h.ex.output, Nat.le_trans h.ex.size hg.size, fun i hi hn => ?_⟩
    rw [key i (Nat.lt_of_lt_of_le hi h.ex.size) (by omega)]
    exact h.ex.block i hi hn
theorem owns_ex {B c : Nat} {w w' : World} {g n cap : Nat} {xs : List Int} (h : Owns B w g n cap xs) (hx : Ex c w w') (hc : c < B) : Owns B w' g n cap xs :=
  World.ownsRow.kept h hx (.inr (by have := (owns_parts h).2.1; simp [Value.ownBlock]; omega))
theorem append_draw {c : Nat} {a : Option Addr} {len cap : Nat} {w0 w : World} {g m cp : Nat} {ys : List Int} (x : Int) (hC : Cur c a len cap w0) (hd : Drawn c a len cap w0 w) (ho : Owns w0.heap.size w g m cp ys) (hs : m + 1 ≤ 4194304) :
    ∃ (g' c' : Nat) (w' : World), (Builtin.append_ #[24, 24] 24 #[.slice (some ⟨g, 0, none⟩) m cp, .slice (some ⟨w.heap.size, 0, none⟩) 1 1]).run Try.prog (w.alloc (.cells #[.int .i64 x] 3)) = .ok (.slice (some ⟨g', 0, none⟩) (m + 1) c') w' ∧
      Owns w0.heap.size w' g' (m + 1) c' (ys ++ [x]) ∧ Drawn c a len cap w0 w' := by
  obtain ⟨g', c', w', hr, ho', hg, _⟩ := append_own1 w0.heap.size m _ ys x w ho hd.ex.size hs
  exact ⟨g', c', w', hr, ho', hd.grown hC hg (owns_parts ho).2.1⟩
theorem wf_snoc {xs : List Int} {x : Int} (h : wfL xs) (hx : (Lit.int .i64 x).wf = true) : wfL (xs ++ [x]) := fun y hy => by
  rcases List.mem_append.1 hy with h' | h'
  · exact h y h'
  · rw [List.mem_singleton] at h'; subst h'; exact hx
theorem wf_nil : wfL [] := fun x hx => by cases hx

/-- One that has P is picked out of a row of such. -/
theorem pickP_any (P : Int → Prop) (a : Option Addr) (len cap : Nat) (c B n : Nat) (w : World) (hC : Cur c a len cap w) (hB : B < w.heap.size) (hBc : B ≠ c) (h0 : 0 < n) (h1 : n ≤ 256)
    (hcell : ∀ i, i < n → ∃ v : Int, w.cell? ⟨B, i, none⟩ = some (.int .i64 v) ∧ P v) :
    Calls Try.prog 46 #[.pointer (some ⟨c, 0, none⟩), .slice (some ⟨B, 0, none⟩) n n] w fun e w' => ∃ x : Int, e = .returned (.int .i64 x) ∧ P x ∧ Drawn c a len cap w w' := by
  go_enter Try.func46, Try.ntmps46
  go_wp2_with fail
  refine (below_any a len cap c n _ hC (by omega) (by omega)).mono ?_
  rintro e w1 ⟨x, rfl, x0, x1, hd⟩
  obtain ⟨k, rfl⟩ := Int.eq_ofNat_of_zero_le x0
  obtain ⟨v, hv, hp⟩ := hcell k (by omega)
  have hv1 : w1.cell? ⟨B, k, none⟩ = some (.int .i64 v) := by rw [hd.ex.cell hB hBc]; exact hv
  clear hcell
  go_wp2
  go_ret
  exact ⟨_, rfl, hp, hd⟩

theorem l2Line_any (a : Option Addr) (len cap : Nat) (c : Nat) (most : Int) (w : World) (hC : Cur c a len cap w) (h0 : 0 ≤ most) (h1 : most ≤ 200) :
    Calls Try.prog 43 #[.pointer (some ⟨c, 0, none⟩), .int .i64 most] w fun e w' => ∃ (g m cp : Nat) (xs : List Int), e = .returned (.slice (some ⟨g, 0, none⟩) m cp) ∧ Owns w.heap.size w' g m cp xs ∧ wfL xs ∧ m ≤ 200 ∧ Drawn c a len cap w w' := by
  have hlt := hC.lt
  have hdS := (Drawn.start hC).alloc (.cells #[] 3)
  have hoS := owns_empty w
  go_enter Try.func43, Try.ntmps43
  go_wp2_with fail
  refine (below_any a len cap c (most + 1) _ hdS.cur (by omega) (by omega)).mono ?_
  rintro e w1 ⟨n, rfl, n0, n1, hd1⟩
  have hd := hdS.trans hd1
  have ho := owns_ex hoS hd1.ex hlt
  clear hdS hoS hd1
  obtain ⟨n, rfl⟩ := Int.eq_ofNat_of_zero_le n0
  go_wp2
  go_loopw [5, 7] (fun v i wr => ∃ (k g m cp : Nat) (xs : List Int), k ≤ n ∧ i = .int .i64 k ∧ v = .slice (some ⟨g, 0, none⟩) m cp ∧ m ≤ k ∧ wfL xs ∧ Owns w.heap.size wr g m cp xs ∧ Drawn c a len cap w wr) (fun _ i _ => n - (intOf i).toNat)
  case atStart => exact ⟨0, _, 0, 0, [], Nat.zero_le _, rfl, rfl, Nat.le_refl _, wf_nil, ho, hd⟩
  case round =>
    obtain ⟨k, g, m, cp, xs, hk, rfl, rfl, hm, hw, hor, hdr⟩ := hrel
    clear hd ho
    by_cases hkn : k < n
    · have hki : (k : Int) < (n : Int) := by omega
      go_wp2_with fail
      refine (below_any a len cap c 64 _ hdr.cur (by omega) (by omega)).mono ?_
      rintro e w2 ⟨x, rfl, x0, x1, hd2⟩
      have hdr2 := hdr.trans hd2
      have hor2 := owns_ex hor hd2.ex hlt
      clear hdr hd2 hor
      go_wp2_with fail
      refine (l2Has_any _ m cp xs x _ (owns_parts hor2).2.2.2.2.2.ints (by omega)).mono ?_
      rintro e w3 ⟨rfl, rfl⟩
      obtain ⟨g', c', w', hr, ho', hd'⟩ := append_draw x hC hdr2 hor2 (by omega)
      have Hr := hidOf hr
      have Ho' := hidOf ho'
      have Ho := hidOf hor2
      clear hr ho' hor2
      cases hh : hasL xs x
      · go_wp2_with (first | (at_builtin; refine wpList_append_run rfl _ _ 24 rfl _ _ _ rfl rfl Hr.out ?_) | go_in)
        go_roundw
        case rel => exact ⟨k + 1, g', m + 1, c', xs ++ [x], by omega, by go_num, rfl, by omega, wf_snoc hw (WalkArith.wf_i64 (by omega)), Ho'.out, hd'⟩
        case measure => simp [intOf]; omega
      · go_wp2
        go_roundw
        case rel => exact ⟨k + 1, g, m, cp, xs, by omega, by go_num, rfl, by omega, hw, Ho.out, hdr2⟩
        case measure => simp [intOf]; omega
    · have hki : ¬ (k : Int) < (n : Int) := by omega
      go_wp2
      go_ret
      exact ⟨_, _, _, rfl, _, hor, hw, by omega, hdr⟩
end Go.Proofs.Ytlodnmbkicmjfaa
