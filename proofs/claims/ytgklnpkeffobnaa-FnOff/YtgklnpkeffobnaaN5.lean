/-
  Walks of the program's tokens: a copy of tokens; tokens out of nodes.
-/
import Derived.Test.YtgklnpkeffobnaaN3
import Derived.Test.YtgklnpkeffobnaaBB7
import Derived.Test.YtgklnpkeffobnaaCP
namespace Go.Proofs.Ytgklnpkeffobnaa
open Go.RowKit Pl Il

theorem ints_first {B : Nat} {w1 w2 : World} {a : Option Addr} {n : Nat} {ps : List Int} {a' : Option Addr} {n' : Nat} {qs : List Bool} (h1 : Il.OwnAt B w1 a n ps) (hb : Below w1.heap.size w1 w2) (h2 : Il.OwnB w1.heap.size w2 a' n' qs) (hB : B ≤ w1.heap.size) : TokOwn B w2 a n ps a' n' qs := by
  refine ⟨h1.keep hb, h2.mono hB, ?_⟩
  rcases h1.ints.row with h | ⟨b, off, rfl, hlt, _⟩
  · exact .inl h
  · rcases h2.own with h | ⟨b', off', rfl, hB', _⟩
    · exact .inr (.inl h)
    · exact .inr (.inr fun x ox y oy e e' => by cases e; cases e'; omega)
theorem bools_first {B : Nat} {w1 w2 : World} {a : Option Addr} {n : Nat} {ps : List Int} {a' : Option Addr} {n' : Nat} {qs : List Bool} (h1 : Il.OwnB B w1 a' n' qs) (hb : Below w1.heap.size w1 w2) (h2 : Il.OwnAt w1.heap.size w2 a n ps) (hB : B ≤ w1.heap.size) : TokOwn B w2 a n ps a' n' qs := by
  refine ⟨h2.mono hB, h1.keep hb, ?_⟩
  rcases h1.ints.row with h | ⟨b, off, rfl, hlt, _⟩
  · exact .inr (.inl h)
  · rcases h2.own with h | ⟨b', off', rfl, hB', _⟩
    · exact .inl h
    · exact .inr (.inr fun x ox y oy e e' => by cases e; cases e'; omega)
theorem TokOwn.far {B : Nat} {w : World} {a : Option Addr} {n : Nat} {ps : List Int} {a' : Option Addr} {n' : Nat} {qs : List Bool} (h : TokOwn B w a n ps a' n' qs) (b o : Nat) (hb : b < B) (x : Value) : TokOwn B (w.setCell ⟨b, o, none⟩ x) a n ps a' n' qs := ⟨h.one.far b o hb x, h.two.far b o hb x, h.apart⟩

set_option maxHeartbeats 1000000 in
theorem copiedTokens_any (a : Option Addr) (n c : Nat) (ps : List Int) (a' : Option Addr) (n' c' : Nat) (qs : List Bool) (w : World) (hT : TokIn w a n ps a' n' qs) (hn : n ≤ 2097152) (hn' : n' ≤ 2097152) :
    Calls Try.prog 36 #[.agg #[.slice a n c, .slice a' n' c']] w fun e w' => ∃ a1 c1 a2 c2, e = .returned (.agg #[.slice a1 n c1, .slice a2 n' c2]) ∧ TokOwn w.heap.size w' a1 n ps a2 n' qs ∧ Below w.heap.size w w' := by
  generalize hW0 : w.alloc (.cells #[.slice a n c, .slice a' n' c'] 27) = W0
  generalize hW1 : W0.alloc (.cells #[.slice none 0 0, .slice none 0 0] 27) = W1
  have B0 : Below w.heap.size w W0 := by subst hW0; exact bl_alloc (Below.refl _ _) _
  have B1 : Below w.heap.size w W1 := by subst hW1; exact bl_alloc B0 _
  have s0 : W0.heap.size = w.heap.size + 1 := by subst hW0; simp
  have s1 : W1.heap.size = w.heap.size + 2 := by subst hW1; simp [s0]
  have x0 : Box2 w.heap.size (.slice a n c) (.slice a' n' c') W1 := by subst hW1 hW0; exact (Box2.new w _ _ _).alloc _
  have x1 : Box2 (w.heap.size + 1) (.slice none 0 0) (.slice none 0 0) W1 := by subst hW1; rw [← s0]; exact Box2.new W0 _ _ _
  have hS : CopyS w (.slice a n c) (.slice a' n' c') W1 := ⟨x0.c0, x0.c1, by omega, B1⟩
  have hR : CopyR (w.heap.size + 1) W1.drew := CopyR.drew ⟨x1.c0, x1.c1, x1.fr 0, x1.fr 1, by omega⟩
  have hz : W1.drew.heap.size = w.heap.size + 2 := s1
  have HT := hidOf hT
  have HZ := hidOf hz
  clear hT x0 x1 B0 B1 hz s1
  go_enter Try.func36, Try.ntmps36
  go_wp2_with fail
  go_region_held3 (fun w' => CopyS w (.slice a n c) (.slice a' n' c') w') (first | (exact hS.drew) | (exact CopyS.keep (by assumption) (by assumption)) | (exact CopyS.store (by assumption) _ _))
    (first
      | (go_at_call 58; refine (copied_any a n c ps _ (HT.out.ints.keep (by simp_all)) hn).mono ?_; rintro e w3 ⟨a1, c1, rfl, ho1, hb1⟩; first | have hR3 := CopyR.keep hR hb1 | (have hR4 := CopyR.keep hR3 hb1; obtain ⟨r0, r1, f0, f1, hl4⟩ := hR4))
      | (go_at_call 59; refine (copiedB_any a' n' c' qs _ (HT.out.bools.keep (by simp_all)) hn').mono ?_; rintro e w4 ⟨a2, c2, rfl, ho2, hb2⟩; first | have hR3 := CopyR.keep hR hb2 | (have hR4 := CopyR.keep hR3 hb2; obtain ⟨r0, r1, f0, f1, hl4⟩ := hR4)))
  go_wp2
  rename_i hHeld
  have ho1' := ho1
  rw [HZ.out] at ho1'
  have hle : w.heap.size + 2 ≤ w3.heap.size := by have := hb1.size; rw [HZ.out] at this; exact this
  have hF := (((ints_first ho1' hb2 ho2 hle).far (w.heap.size + 1) 0 (by omega) (.slice a1 n c1)).far (w.heap.size + 1) 1 (by omega) (.slice a2 n' c2)).mono (B' := w.heap.size) (by omega)
  exact bodyPost_ret (v := .agg #[.slice a1 n c1, .slice a2 n' c2]) (by simp [results, Try.results36, go_sem, r0, r1]) rfl ⟨_, _, _, _, rfl, hF, hHeld.2.2.2⟩

theorem rows_ne {B B' : Nat} {w : World} {v1 v2 : Value} {k1 k2 : Nat} {xs ys : List Value} (h1 : w.ownsRow B 3 1 v1 k1 xs) (h2 : w.ownsRow B' 4 1 v2 k2 ys) : v1.ownBlock = none ∨ v1.ownBlock ≠ v2.ownBlock := by
  obtain ⟨_, ⟨rfl, _⟩ | ⟨g, cap, cur, rfl, _, hg, _⟩⟩ := h1
  · exact .inl rfl
  · obtain ⟨_, ⟨rfl, _⟩ | ⟨g', cap', cur', rfl, _, hg', _⟩⟩ := h2
    · exact .inr (by simp [Value.ownBlock])
    · refine .inr fun e => ?_
      simp [Value.ownBlock] at e
      subst e
      rw [hg] at hg'
      simp at hg'
/-- Tokens that are being made: their variable in block N, their rows in blocks from B on. -/
structure TokB (N B : Nat) (w : World) (v1 v2 : Value) (k1 k2 : Nat) (ps : List Int) (qs : List Bool) : Prop where
  box : Box2 N v1 v2 w
  lt : N < B
  size : B ≤ w.heap.size
  one : w.ownsRow B 3 1 v1 k1 (ps.map (Value.int .i64))
  two : w.ownsRow B 4 1 v2 k2 (qs.map Value.bool)
theorem TokB.form1 {N B : Nat} {w : World} {v1 v2 : Value} {k1 k2 : Nat} {ps : List Int} {qs : List Bool} (h : TokB N B w v1 v2 k1 k2 ps qs) : ∃ a c, v1 = .slice a k1 c := by
  obtain ⟨a, c, e, _⟩ := own_of h.one ps rfl
  exact ⟨a, c, e⟩
theorem TokB.form2 {N B : Nat} {w : World} {v1 v2 : Value} {k1 k2 : Nat} {ps : List Int} {qs : List Bool} (h : TokB N B w v1 v2 k1 k2 ps qs) : ∃ a c, v2 = .slice a k2 c := by
  obtain ⟨a, c, e, _⟩ := own_ofB h.two qs rfl
  exact ⟨a, c, e⟩
theorem TokB.keep {N B : Nat} {w w' : World} {v1 v2 : Value} {k1 k2 : Nat} {ps : List Int} {qs : List Bool} (h : TokB N B w v1 v2 k1 k2 ps qs) (hb : Below w.heap.size w w') : TokB N B w' v1 v2 k1 k2 ps qs := by
  have hg : ∀ r, w.grownBy w' r := fun r => ⟨hb.os, hb.tape, hb.output, hb.size, fun k hk _ => hb.block k hk⟩
  refine ⟨h.box.keep hb, h.lt, Nat.le_trans h.size hb.size, h.one.kept (hg none) ?_, h.two.kept (hg none) ?_⟩
  · cases v1.ownBlock <;> simp
  · cases v2.ownBlock <;> simp
theorem setCell_grown (w : World) (N o : Nat) (x : Value) : w.grownBy (w.setCell ⟨N, o, none⟩ x) (some N) := ⟨rfl, rfl, rfl, by simp, fun k _ hk => Below.heap_setCell _ _ _ _ (by rintro rfl; exact hk rfl)⟩
theorem ownsRow_ge {B e : Nat} {w : World} {v : Value} {k : Nat} {xs : List Value} (h : w.ownsRow B e 1 v k xs) {j : Nat} (hj : v.ownBlock = some j) : B ≤ j := (World.ownsRow.lt h j hj).1
theorem Box2.grownO {N : Nat} {v0 v1 : Value} {w u : World} {g : Option Nat} (h : Box2 N v0 v1 w) (hg : w.grownBy u g) (hN : some N ≠ g) : Box2 N v0 v1 u := by
  have key : u.heap[N]? = w.heap[N]? := hg.block N h.lt hN
  exact ⟨Nat.lt_of_lt_of_le h.lt hg.size, by rw [← h.c0]; exact World.cell?_of_block key, by rw [← h.c1]; exact World.cell?_of_block key, fun k => by rw [← h.fr k]; exact World.frozen?_of_block key⟩
/-- One more parent. -/
theorem TokB.step1 {N B : Nat} {w : World} {v1 v2 : Value} {k1 k2 : Nat} {ps : List Int} {qs : List Bool} (h : TokB N B w v1 v2 k1 k2 ps qs) (p : Int) (hk : k1 + 1 ≤ 4194304) : ∃ (g c : Nat) (w1 : World),
    (Builtin.append_ #[24, 24] 24 #[v1, .slice (some ⟨w.heap.size, 0, none⟩) 1 1]).run Try.prog (w.alloc (.cells #[.int .i64 p] 3)) = .ok (.slice (some ⟨g, 0, none⟩) (k1 + 1) c) w1 ∧ w1.cell? ⟨N, 0, none⟩ = some v1 ∧ w1.frozen? ⟨N, 0, none⟩ = false ∧
    TokB N B (w1.setCell ⟨N, 0, none⟩ (.slice (some ⟨g, 0, none⟩) (k1 + 1) c)) (.slice (some ⟨g, 0, none⟩) (k1 + 1) c) v2 (k1 + 1) k2 (ps ++ [p]) qs ∧ Below N w (w1.setCell ⟨N, 0, none⟩ (.slice (some ⟨g, 0, none⟩) (k1 + 1) c)) := by
  obtain ⟨g, c, w1, hr, ho, hg, _⟩ := append_own1 B k1 v1 ps p w h.one h.size hk
  have hN : some N ≠ v1.ownBlock := fun e => by have := ownsRow_ge h.one e.symm; have := h.lt; omega
  have hb := h.box.grownO hg hN
  have hs := setCell_grown w1 N 0 (.slice (some ⟨g, 0, none⟩) (k1 + 1) c)
  have hgB := ownsRow_ge ho (j := g) rfl
  have hlt := h.lt
  refine ⟨g, c, w1, hr, hb.c0, hb.fr 0, ⟨hb.set0 _, h.lt, ?_, ho.kept hs (.inr (by simp [Value.ownBlock]; omega)), (h.two.kept hg ?_).kept hs ?_⟩, ?_⟩
  · have := hg.size; have := h.size; simp; omega
  · rcases rows_ne h.one h.two with e | e
    · cases hv : v2.ownBlock
      · exact .inl rfl
      · exact .inr (by rw [e]; simp)
    · exact .inr (fun e' => e e'.symm)
  · cases hv : v2.ownBlock with
    | none => exact .inl rfl
    | some j => exact .inr (by have := ownsRow_ge h.two hv; simp; omega)
  · have hsz := h.size
    exact ((Below.refl N w).grown hg (by omega) (fun j hj => by have := ownsRow_ge h.one hj; omega)).setCell (p := ⟨N, 0, none⟩) (Nat.le_refl _) _
/-- One more that says whether it is off. -/
theorem TokB.step2 {N B : Nat} {w : World} {v1 v2 : Value} {k1 k2 : Nat} {ps : List Int} {qs : List Bool} (h : TokB N B w v1 v2 k1 k2 ps qs) (q : Bool) (hk : k2 + 1 ≤ 4194304) : ∃ (g c : Nat) (w1 : World),
    (Builtin.append_ #[25, 25] 25 #[v2, .slice (some ⟨w.heap.size, 0, none⟩) 1 1]).run Try.prog (w.alloc (.cells #[.bool q] 4)) = .ok (.slice (some ⟨g, 0, none⟩) (k2 + 1) c) w1 ∧ w1.cell? ⟨N, 1, none⟩ = some v2 ∧ w1.frozen? ⟨N, 1, none⟩ = false ∧
    TokB N B (w1.setCell ⟨N, 1, none⟩ (.slice (some ⟨g, 0, none⟩) (k2 + 1) c)) v1 (.slice (some ⟨g, 0, none⟩) (k2 + 1) c) k1 (k2 + 1) ps (qs ++ [q]) ∧ Below N w (w1.setCell ⟨N, 1, none⟩ (.slice (some ⟨g, 0, none⟩) (k2 + 1) c)) := by
  obtain ⟨g, c, w1, hr, ho, hg, _⟩ := append_ownB1 B k2 v2 qs q w h.two h.size hk
  have hN : some N ≠ v2.ownBlock := fun e => by have := ownsRow_ge h.two e.symm; have := h.lt; omega
  have hb := h.box.grownO hg hN
  have hs := setCell_grown w1 N 1 (.slice (some ⟨g, 0, none⟩) (k2 + 1) c)
  have hgB := ownsRow_ge ho (j := g) rfl
  have hlt := h.lt
  refine ⟨g, c, w1, hr, hb.c1, hb.fr 1, ⟨hb.set1 _, h.lt, ?_, (h.one.kept hg (rows_ne h.one h.two)).kept hs ?_, ho.kept hs (.inr (by simp [Value.ownBlock]; omega))⟩, ?_⟩
  · have := hg.size; have := h.size; simp; omega
  · cases hv : v1.ownBlock with
    | none => exact .inl rfl
    | some j => exact .inr (by have := ownsRow_ge h.one hv; simp; omega)
  · have hsz := h.size
    exact ((Below.refl N w).grown hg (by omega) (fun j hj => by have := ownsRow_ge h.two hj; omega)).setCell (p := ⟨N, 1, none⟩) (Nat.le_refl _) _
theorem TokB.own {N B : Nat} {w : World} {a1 a2 : Option Addr} {k1 k2 c1 c2 : Nat} {ps : List Int} {qs : List Bool} (h : TokB N B w (.slice a1 k1 c1) (.slice a2 k2 c2) k1 k2 ps qs) : TokOwn B w a1 k1 ps a2 k2 qs := by
  obtain ⟨_, _, e1, o1⟩ := own_of h.one ps rfl
  cases e1
  obtain ⟨_, _, e2, o2⟩ := own_ofB h.two qs rfl
  cases e2
  refine ⟨o1, o2, .inr (.inr fun b off b' off' e e' => ?_)⟩
  subst e e'
  rcases rows_ne h.one h.two with e | e
  · simp [Value.ownBlock] at e
  · simpa [Value.ownBlock] using e
end Go.Proofs.Ytgklnpkeffobnaa
