/-
  Walks of the specification's draws: tokens, one behind the other.
-/
import Derived.Test.YtgklnpkeffobnaaK5
import Derived.Test.YtgklnpkeffobnaaN7
import Derived.Deep.CutRange
namespace Go.Proofs.Ytgklnpkeffobnaa
open Go.RowKit Pl Dr Il

/-- A variable of tokens, whole, in block N. -/
def tokO (v v' : Value) : Obj := .cells #[v, v'] 27 (0, 0)
theorem tok_cells {w : World} {N : Nat} {v v' : Value} (h : w.heap[N]? = some (tokO v v')) : w.cell? ⟨N, 0, none⟩ = some v ∧ w.cell? ⟨N, 1, none⟩ = some v' ∧ ∀ o, w.frozen? ⟨N, o, none⟩ = false := by
  refine ⟨?_, ?_, fun o => ?_⟩ <;> simp [World.cell?, World.frozen?, h, tokO]
theorem row_ne {B e : Nat} {w : World} {v : Value} {k : Nat} {xs : List Value} (h : w.ownsRow B e 1 v k xs) {N : Nat} {x x' : Value} (hN : w.heap[N]? = some (tokO x x')) (he : e ≠ 27) : some N ≠ v.ownBlock := by
  intro e'
  obtain ⟨_, ⟨rfl, _⟩ | ⟨g, cap, cur, rfl, _, hg, _⟩⟩ := h
  · simp [Value.ownBlock] at e'
  · simp [Value.ownBlock] at e'
    subst e'
    rw [hN] at hg
    simp [tokO] at hg
    exact he hg.2.symm
theorem TokApp.grown {B : Nat} {w w' : World} {v v' : Value} {ps : List Int} {qs : List Bool} {N : Nat} {x x' : Value} (h : TokApp B w v v' ps qs) (hN : w.heap[N]? = some (tokO x x')) (hg : w.grownBy w' (some N)) : TokApp B w' v v' ps qs :=
  ⟨h.one.kept hg (.inr (fun e => row_ne h.one hN (by decide) e.symm)), h.two.kept hg (.inr (fun e => row_ne h.two hN (by decide) e.symm)), h.wf⟩
theorem TokApp.keep {B : Nat} {w w' : World} {v v' : Value} {ps : List Int} {qs : List Bool} (h : TokApp B w v v' ps qs) (hb : Below w.heap.size w w') : TokApp B w' v v' ps qs := by
  have hg : w.grownBy w' none := ⟨hb.os, hb.tape, hb.output, hb.size, fun k hk _ => hb.block k hk⟩
  refine ⟨h.one.kept hg ?_, h.two.kept hg ?_, h.wf⟩
  · cases v.ownBlock <;> simp
  · cases v'.ownBlock <;> simp
theorem TokApp.mono {B B' : Nat} {w : World} {v v' : Value} {ps : List Int} {qs : List Bool} (h : TokApp B w v v' ps qs) (hB : B' ≤ B) : TokApp B' w v v' ps qs := by
  refine ⟨?_, ?_, h.wf⟩
  · obtain ⟨hl, hn | ⟨g, cap, cur, e, hb, hr⟩⟩ := h.one
    · exact ⟨hl, .inl hn⟩
    · exact ⟨hl, .inr ⟨g, cap, cur, e, Nat.le_trans hB hb, hr⟩⟩
  · obtain ⟨hl, hn | ⟨g, cap, cur, e, hb, hr⟩⟩ := h.two
    · exact ⟨hl, .inl hn⟩
    · exact ⟨hl, .inr ⟨g, cap, cur, e, Nat.le_trans hB hb, hr⟩⟩

/-- What a draw of tokens holds on to: the variable at N holds tokens, the result's at R nothing yet; the cursor. -/
structure TokV (c : Nat) (a : Option Addr) (len cap : Nat) (w : World) (R N : Nat) (v v' : Value) (ps : List Int) (qs : List Bool) (u : World) : Prop where
  blk : u.heap[N]? = some (tokO v v')
  res : u.heap[R]? = some (tokO (.slice none 0 0) (.slice none 0 0))
  app : TokApp w.heap.size u v v' ps qs
  dr : Drawn c a len cap w u
  cur : Cur c a len cap w
  ge : w.heap.size ≤ N
  geR : w.heap.size ≤ R
  ne : R ≠ N
  len : ps.length = qs.length
  le : ps.length ≤ 24
theorem TokV.keep {c : Nat} {a : Option Addr} {len cap : Nat} {w : World} {R N : Nat} {v v' : Value} {ps : List Int} {qs : List Bool} {u u' : World} (h : TokV c a len cap w R N v v' ps qs u) (hb : Below u.heap.size u u') : TokV c a len cap w R N v v' ps qs u' :=
  ⟨by rw [hb.block N (lt_of_some h.blk)]; exact h.blk, by rw [hb.block R (lt_of_some h.res)]; exact h.res, h.app.keep hb, h.dr.keep hb, h.cur, h.ge, h.geR, h.ne, h.len, h.le⟩
theorem TokV.draw {c : Nat} {a : Option Addr} {len cap : Nat} {w : World} {R N : Nat} {v v' : Value} {ps : List Int} {qs : List Bool} {u u' : World} (h : TokV c a len cap w R N v v' ps qs u) (hd : Drawn c a len cap u u') : TokV c a len cap w R N v v' ps qs u' := by
  have hlt := h.cur.lt
  have h1 := h.ge
  have h2 := h.geR
  exact ⟨by rw [hd.ex.block N (lt_of_some h.blk) (by simp; omega)]; exact h.blk, by rw [hd.ex.block R (lt_of_some h.res) (by simp; omega)]; exact h.res, h.app.ex hd.ex hlt, h.dr.trans hd, h.cur, h.ge, h.geR, h.ne, h.len, h.le⟩
/-- Other tokens are laid into the variable. -/
theorem TokV.put {c : Nat} {a : Option Addr} {len cap : Nat} {w : World} {R N : Nat} {v v' v1 v1' : Value} {ps ps1 : List Int} {qs qs1 : List Bool} {u : World} (h : TokV c a len cap w R N v v' ps qs u) (hA : TokApp w.heap.size u v1 v1' ps1 qs1) (hl : ps1.length = qs1.length) (hle : ps1.length ≤ 24) :
    TokV c a len cap w R N v1 v1' ps1 qs1 ((u.setCell ⟨N, 0, none⟩ v1).setCell ⟨N, 1, none⟩ v1') := by
  have b1 : (u.setCell ⟨N, 0, none⟩ v1).heap[N]? = some (tokO v1 v') := by
    have := set_block (o := 0) (x := v1) h.blk
    simpa [tokO] using this
  have b2 : ((u.setCell ⟨N, 0, none⟩ v1).setCell ⟨N, 1, none⟩ v1').heap[N]? = some (tokO v1 v1') := by
    have := set_block (o := 1) (x := v1') b1
    simpa [tokO] using this
  have hne := h.ne
  refine ⟨b2, ?_, (hA.grown h.blk (setCell_grown u N 0 v1)).grown b1 (setCell_grown _ N 1 v1'), (h.dr.store h.cur ⟨N, 0, none⟩ h.ge v1).store h.cur ⟨N, 1, none⟩ h.ge v1', h.cur, h.ge, h.geR, h.ne, hl, hle⟩
  rw [Below.heap_setCell _ _ _ _ hne, Below.heap_setCell _ _ _ _ hne]; exact h.res
theorem TokV.form {c : Nat} {a : Option Addr} {len cap : Nat} {w : World} {R N : Nat} {v v' : Value} {ps : List Int} {qs : List Bool} {u : World} (h : TokV c a len cap w R N v v' ps qs u) : ∃ m a1 c1 a2 c2, v = .slice a1 m c1 ∧ v' = .slice a2 m c2 ∧ m ≤ 24 ∧ ps.length = m := by
  obtain ⟨a1, c1, a2, c2, e1, e2, _⟩ := h.app.tin
  exact ⟨ps.length, a1, c1, a2, c2, e1, by rw [e2, h.len], h.le, rfl⟩
theorem TokV.tin {c : Nat} {a : Option Addr} {len cap : Nat} {w : World} {R N : Nat} {a1 a2 : Option Addr} {n1 c1 n2 c2 : Nat} {ps : List Int} {qs : List Bool} {u : World} (h : TokV c a len cap w R N (.slice a1 n1 c1) (.slice a2 n2 c2) ps qs u) : TokIn u a1 n1 ps a2 n2 qs := by
  obtain ⟨_, _, _, _, e1, e2, hT⟩ := h.app.tin
  cases e1
  cases e2
  exact hT
/-- What a region of the draw holds on to. -/
abbrev TokS (N : Nat) (v v' : Value) (u : World) : Prop := u.cell? ⟨N, 0, none⟩ = some v ∧ u.cell? ⟨N, 1, none⟩ = some v' ∧ N < u.heap.size
theorem TokV.s {c : Nat} {a : Option Addr} {len cap : Nat} {w : World} {R N : Nat} {v v' : Value} {ps : List Int} {qs : List Bool} {u : World} (h : TokV c a len cap w R N v v' ps qs u) : TokS N v v' u := ⟨(tok_cells h.blk).1, (tok_cells h.blk).2.1, lt_of_some h.blk⟩
theorem TokS.keep {N : Nat} {v v' : Value} {u u' : World} (h : TokS N v v' u) (hb : Below u.heap.size u u') : TokS N v v' u' :=
  ⟨by rw [hb.cell (p := ⟨N, 0, none⟩) h.2.2]; exact h.1, by rw [hb.cell (p := ⟨N, 1, none⟩) h.2.2]; exact h.2.1, Nat.lt_of_lt_of_le h.2.2 hb.size⟩
theorem TokS.drew {N : Nat} {v v' : Value} {u : World} (h : TokS N v v' u) : TokS N v v' u.drew := h.keep (Below.refl _ _).drew
theorem TokS.alloc {N : Nat} {v v' : Value} {u : World} (h : TokS N v v' u) (o : Obj) : TokS N v v' (u.alloc o) := h.keep (bl_alloc (Below.refl _ _) o)
theorem TokS.draw {N : Nat} {v v' : Value} {c : Nat} {a : Option Addr} {len cap : Nat} {u u' : World} (h : TokS N v v' u) (hd : Drawn c a len cap u u') (hn : N ≠ c) : TokS N v v' u' :=
  ⟨by rw [hd.ex.cell h.2.2 hn]; exact h.1, by rw [hd.ex.cell h.2.2 hn]; exact h.2.1, Nat.lt_of_lt_of_le h.2.2 hd.ex.size⟩

theorem TokS.store2 {N M : Nat} {v v' : Value} {u : World} (h : TokS N v v' u) (hM : N < M) (x y : Value) : TokS N v v' ((u.setCell ⟨M, 0, none⟩ x).setCell ⟨M, 1, none⟩ y) := by
  have hne : M ≠ N := by omega
  refine ⟨?_, ?_, by simpa using h.2.2⟩
  · rw [World.cell?_setCell_other _ _ _ _ (fun e => hne (congrArg Addr.block e)), World.cell?_setCell_other _ _ _ _ (fun e => hne (congrArg Addr.block e))]; exact h.1
  · rw [World.cell?_setCell_other _ _ _ _ (fun e => hne (congrArg Addr.block e)), World.cell?_setCell_other _ _ _ _ (fun e => hne (congrArg Addr.block e))]; exact h.2.1
theorem TokV.far {c : Nat} {a : Option Addr} {len cap : Nat} {w : World} {R N M o : Nat} {v v' x x' y : Value} {ps : List Int} {qs : List Bool} {u : World} (h : TokV c a len cap w R N v v' ps qs u) (hM : u.heap[M]? = some (tokO x x')) (h1 : N ≠ M) (h2 : R ≠ M) (h3 : w.heap.size ≤ M) : TokV c a len cap w R N v v' ps qs (u.setCell ⟨M, o, none⟩ y) :=
  ⟨by rw [Below.heap_setCell _ _ _ _ h1]; exact h.blk, by rw [Below.heap_setCell _ _ _ _ h2]; exact h.res, h.app.grown hM (setCell_grown u M o y), h.dr.store h.cur ⟨M, o, none⟩ h3 y, h.cur, h.ge, h.geR, h.ne, h.len, h.le⟩
/-- Other tokens lie in the variable at M, ready to be laid into the one at N. -/
structure Nxt (c : Nat) (a : Option Addr) (len cap : Nat) (w : World) (R N M : Nat) (v v' v1 v1' : Value) (ps : List Int) (qs : List Bool) (ps1 : List Int) (qs1 : List Bool) (u : World) : Prop where
  old : TokV c a len cap w R N v v' ps qs u
  blk : u.heap[M]? = some (tokO v1 v1')
  app : TokApp w.heap.size u v1 v1' ps1 qs1
  ne : N ≠ M
  len : ps1.length = qs1.length
  le : ps1.length ≤ 24
theorem Nxt.ofStore {c : Nat} {a : Option Addr} {len cap : Nat} {w : World} {R N M : Nat} {v v' v1 v1' x x' : Value} {ps ps1 : List Int} {qs qs1 : List Bool} {u : World} (h : TokV c a len cap w R N v v' ps qs u) (hA : TokApp w.heap.size u v1 v1' ps1 qs1) (hM : u.heap[M]? = some (tokO x x')) (h1 : N < M) (h2 : R < M) (hl : ps1.length = qs1.length) (hle : ps1.length ≤ 24) :
    Nxt c a len cap w R N M v v' v1 v1' ps qs ps1 qs1 ((u.setCell ⟨M, 0, none⟩ v1).setCell ⟨M, 1, none⟩ v1') := by
  have b1 : (u.setCell ⟨M, 0, none⟩ v1).heap[M]? = some (tokO v1 x') := by
    have := set_block (o := 0) (x := v1) hM
    simpa [tokO] using this
  have b2 : ((u.setCell ⟨M, 0, none⟩ v1).setCell ⟨M, 1, none⟩ v1').heap[M]? = some (tokO v1 v1') := by
    have := set_block (o := 1) (x := v1') b1
    simpa [tokO] using this
  have hge := h.ge
  exact ⟨(h.far hM (by omega) (by omega) (by omega)).far b1 (by omega) (by omega) (by omega), b2, (hA.grown hM (setCell_grown u M 0 v1)).grown b1 (setCell_grown _ M 1 v1'), by omega, hl, hle⟩
theorem Nxt.ofAlloc {c : Nat} {a : Option Addr} {len cap : Nat} {w : World} {R N : Nat} {v v' v1 v1' : Value} {ps ps1 : List Int} {qs qs1 : List Bool} {u : World} (h : TokV c a len cap w R N v v' ps qs u) (hA : TokApp w.heap.size u v1 v1' ps1 qs1) (hl : ps1.length = qs1.length) (hle : ps1.length ≤ 24) :
    Nxt c a len cap w R N u.heap.size v v' v1 v1' ps qs ps1 qs1 (u.alloc (.cells #[v1, v1'] 27)) := by
  have hb := bl_alloc (Below.refl u.heap.size u) (.cells #[v1, v1'] 27)
  exact ⟨h.keep hb, heap_alloc_new _ _, hA.keep hb, Nat.ne_of_lt (lt_of_some h.blk), hl, hle⟩
theorem Nxt.form {c : Nat} {a : Option Addr} {len cap : Nat} {w : World} {R N M : Nat} {v v' v1 v1' : Value} {ps : List Int} {qs : List Bool} {ps1 : List Int} {qs1 : List Bool} {u : World} (h : Nxt c a len cap w R N M v v' v1 v1' ps qs ps1 qs1 u) : ∃ m a1 c1 a2 c2, v1 = .slice a1 m c1 ∧ v1' = .slice a2 m c2 ∧ m ≤ 24 ∧ ps1.length = m := by
  obtain ⟨a1, c1, a2, c2, e1, e2, _⟩ := h.app.tin
  exact ⟨ps1.length, a1, c1, a2, c2, e1, by rw [e2, h.len], h.le, rfl⟩
theorem wrap_small {x : Int} (h : -1000000 ≤ x) (h2 : x ≤ 1000000) : IntKind.i64.wrap x = x := by rw [IntKind.wrap_i64]; omega
theorem new_lens {ps : List Int} {qs : List Bool} {x : Int} (h : ps.length = qs.length) (hle : ps.length ≤ 24) : (newL ps qs x).1.length = (newL ps qs x).2.1.length ∧ (newL ps qs x).1.length ≤ 24 := by
  unfold newL
  split
  · exact ⟨h, hle⟩
  · split
    · exact ⟨h, hle⟩
    · simp only [List.length_append, List.length_singleton]
      omega
theorem cancel_lens {ps : List Int} {qs : List Bool} {x : Int} : (cancelL ps qs x).1.length = qs.length := by
  unfold cancelL
  split
  · rfl
  · split
    · rfl
    · exact (cancelTo_len _ _ _).1

set_option maxRecDepth 100000 in
set_option maxHeartbeats 1600000 in
theorem l3Tokens_any (a : Option Addr) (len cap : Nat) (c : Nat) (most : Int) (w : World) (hC : Cur c a len cap w) (h0 : 0 ≤ most) (h1 : most ≤ 200) :
    Calls Try.prog 55 #[.pointer (some ⟨c, 0, none⟩), .int .i64 most] w fun e w' => ∃ v v' ps qs, e = .returned (.agg #[v, v']) ∧ TokApp w.heap.size w' v v' ps qs ∧ ps.length = qs.length ∧ ps.length ≤ 24 ∧ Drawn c a len cap w w' := by
  generalize hW0 : w.alloc (.cells #[.slice none 0 0, .slice none 0 0] 27) = W0
  generalize hW1 : W0.alloc (.cells #[.slice none 0 0, .slice none 0 0] 27) = W1
  have s0 : W0.heap.size = w.heap.size + 1 := by subst hW0; simp
  have hS : TokV c a len cap w w.heap.size (w.heap.size + 1) (.slice none 0 0) (.slice none 0 0) [] [] W1 := by
    refine ⟨?_, ?_, ⟨⟨rfl, .inl ⟨rfl, rfl⟩⟩, ⟨rfl, .inl ⟨rfl, rfl⟩⟩, fun x hx => by cases hx⟩, ?_, hC, by omega, Nat.le_refl _, by omega, rfl, by simp⟩
    · subst hW1; rw [← s0]; exact heap_alloc_new _ _
    · subst hW1; rw [Below.heap_alloc _ _ _ (by omega)]; subst hW0; exact heap_alloc_new _ _
    · subst hW1 hW0; exact ((Drawn.start hC).alloc _).alloc _
  obtain ⟨z0, z1, zf⟩ := tok_cells hS.blk
  have zf0 := zf 0
  have zf1 := zf 1
  have hS' := hS.put hS.app rfl (by simp)
  have hc1 := hS'.dr.cur
  have HS := hidOf hS'
  have HC := hidOf hC
  clear hS'
  clear hS hC
  go_enter Try.func55, Try.ntmps55
  go_wp2_with fail
  refine (below_any a len cap c (most + 1) _ hc1 (by omega) (by omega)).mono ?_
  rintro e w1 ⟨n, rfl, n0, n1, hd1⟩
  have HS1 := hidOf (HS.out.draw hd1)
  clear hd1 hc1 HS z0 z1 zf zf0 zf1
  obtain ⟨n, rfl⟩ := Int.eq_ofNat_of_zero_le n0
  go_wp2
  go_loopw [7] (fun i wr => ∃ (k : Nat) (v v' : Value) (ps : List Int) (qs : List Bool), k ≤ n ∧ i = .int .i64 k ∧ TokV c a len cap w w.heap.size (w.heap.size + 1) v v' ps qs wr) (fun i _ => n - (intOf i).toNat)
  case atStart => exact ⟨0, _, _, _, _, Nat.zero_le _, rfl, HS1.out⟩
  case round =>
    rename_i wr
    obtain ⟨k, v, v', ps, qs, hk, rfl, hT⟩ := hrel
    clear HS1
    obtain ⟨m, a1, c1, a2, c2, rfl, rfl, hm, hpm⟩ := hT.form
    have HPM := hidOf hpm
    clear hpm
    by_cases hkn : k < n
    · have hki : (k : Int) < (n : Int) := by omega
      have hSr := hT.s
      have hwk : IntKind.i64.wrap ((k : Int) + 1) = (k : Int) + 1 := wrap_small (by omega) (by omega)
      have hNc : w.heap.size + 1 ≠ c := by have := HC.out.lt; omega
      have hNw : w.heap.size + 1 < wr.heap.size := lt_of_some hT.blk
      have hWc : wr.heap.size ≠ c := by have := HC.out.lt; omega
      have hTd := hT.keep (Below.refl _ _).drew
      have HB := hidOf (fun (u : World) (hu : Cur c a len cap u) => below_any a len cap c ((k : Int) + 1) u hu (by omega) (by omega))
      have HN := hidOf (fun (x : Int) (u : World) (hu : TokV c a len cap w w.heap.size (w.heap.size + 1) (.slice a1 m c1) (.slice a2 m c2) ps qs u) => specNewToken_any a1 m c1 ps a2 m c2 qs (x - 1) u hu.tin (by omega) (by omega))
      have HT := hidOf hTd
      have HT0 := hidOf hT
      have HLen := hidOf hT.len
      have HWf := hidOf hT.app.wf
      clear hT hTd
      go_upto_region 6 with fail
      go_cut [8, 9, 10] from 19 to 48 (fun s8 _ _ wx => ∃ (M : Nat) (v1 v1' : Value) (ps1 : List Int) (qs1 : List Bool), s8 = .pointer (some ⟨M, 0, none⟩) ∧ Nxt c a len cap w w.heap.size (w.heap.size + 1) M (.slice a1 m c1) (.slice a2 m c2) v1 v1' ps qs ps1 qs1 wx)
      case first =>
        go_region_held3 (fun w' => TokS (w.heap.size + 1) (.slice a1 m c1) (.slice a2 m c2) w') (first | (exact hSr.drew) | (exact (hSr.alloc _).drew) | (exact TokS.draw (by assumption) hd2 hNc) | (exact TokS.keep (by assumption) hb3) | (exact TokS.alloc (by assumption) _) | (exact hV3.s.alloc _) | (exact TokS.store2 hV3.s hNw _ _) | (exact TokS.store2 hV3.s (Nat.lt_of_lt_of_le hNw hd2.ex.size) _ _) | (exact TokS.store2 (by assumption) hNw _ _) | (exact TokS.store2 (by assumption) (Nat.lt_of_lt_of_le hNw hd2.ex.size) _ _))
          (first
            | (go_at_call 34; refine (HB.out _ ?cur).mono ?_; (case cur => first | with_reducible exact HT.out.dr.cur | with_reducible exact ((HT0.out.keep (bl_alloc (Below.refl _ _) _)).keep (Below.refl _ _).drew).dr.cur); rintro e w2 ⟨x, rfl, x0, x1, hd2⟩; have hwx : IntKind.i64.wrap (x - 1) = x - 1 := wrap_small (by omega) (by omega); first | (with_reducible have hV2 := HT.out.draw hd2) | ((with_reducible have hV2 := ((HT0.out.keep (bl_alloc (Below.refl _ _) _)).keep (Below.refl _ _).drew).draw hd2); have hM2 : w2.heap[wr.heap.size]? = some (tokO (.slice none 0 0) (.slice none 0 0)) := (hd2.ex.block wr.heap.size (show wr.heap.size < (wr.alloc (.cells #[.slice none 0 0, .slice none 0 0] 27)).heap.size by simp) (fun e => hWc (Option.some.inj e))).trans (heap_alloc_new _ _)))
            | (go_at_call 25; refine (HN.out x _ ?hv).mono ?_; (case hv => first | with_reducible exact hV2 | with_reducible exact hV2.keep (bl_alloc (Below.refl _ _) _)); rintro e w3 ⟨g3, m3, cp3, g4, m4, cp4, rfl, hR3, hb3⟩; first | ((with_reducible have hV3 := hV2.keep hb3); first | (have hM3 := (hb3.block _ (lt_of_some hM2)).trans hM2; obtain ⟨q0, q1, qf⟩ := tok_cells hM3; have qf0 := qf 0; have qf1 := qf 1) | skip) | ((with_reducible have hV3 := (hV2.keep (bl_alloc (Below.refl _ _) _)).keep hb3); have hM3 : w3.heap[w2.heap.size]? = some (tokO (.slice none 0 0) (.slice none 0 0)) := (hb3.block w2.heap.size (by simp)).trans (heap_alloc_new _ _); obtain ⟨q0, q1, qf⟩ := tok_cells hM3; have qf0 := qf 0; have qf1 := qf 1)))
        all_goals have hl3 := new_lens (x := x - 1) HLen.out (by rw [HPM.out]; exact hm)
        all_goals have hw3 := new_wf (qs := qs) (x := x - 1) HWf.out (WalkArith.wf_i64 (by omega))
        all_goals have hsz2 : w.heap.size ≤ w2.heap.size := hV2.dr.ex.size
        · have hA3 := (hR3.app hw3).mono hsz2
          go_wp2_with fail
          go_meet
          exact ⟨_, _, _, _, _, rfl, Nxt.ofAlloc hV3 hA3 hl3.1 hl3.2⟩
        · have hA3 := (hR3.app hw3).mono (Nat.le_trans hsz2 (show w2.heap.size ≤ (w2.alloc _).heap.size by simp))
          go_wp2_with fail
          go_meet
          exact ⟨_, _, _, _, _, rfl, Nxt.ofStore hV3 hA3 hM3 (Nat.lt_of_lt_of_le hNw hd2.ex.size) (Nat.lt_of_lt_of_le (show w.heap.size < wr.heap.size by omega) hd2.ex.size) hl3.1 hl3.2⟩
        · have hA3 := (hR3.app hw3).mono hsz2
          go_wp2_with fail
          go_meet
          exact ⟨_, _, _, _, _, rfl, Nxt.ofStore hV3 hA3 hM3 hNw (by omega) hl3.1 hl3.2⟩
      case rest =>
        obtain ⟨M, v1, v1', ps1, qs1, rfl, hX⟩ := hcut
        obtain ⟨m1, b1, d1, b2, d2, rfl, rfl, hm1, hpm1⟩ := hX.form
        obtain ⟨m0, m1', _⟩ := tok_cells hX.blk
        obtain ⟨o0, o1, of⟩ := tok_cells hX.old.blk
        have of0 := of 0
        have of1 := of 1
        have hP := hX.old.put hX.app hX.len hX.le
        have HP := hidOf hP
        have HPM1 := hidOf hpm1
        have HOn := hidOf (fun (u : World) (hu : Cur c a len cap u) => once_any a len cap c 6 u hu (by omega) (by omega))
        have hne := hX.ne
        clear hP hX HB HN HT HT0 HLen HWf hSr of hpm1
        go_wp2_with fail
        refine (HOn.out _ HP.out.dr.cur).mono ?_
        rintro e w5 ⟨y, rfl, hd5⟩
        have hV5 := HP.out.draw hd5
        clear m0 m1' o0 o1 of0 of1 hd5
        cases y
        · have HV5 := hidOf hV5
          clear hV5
          go_wp2
          go_roundw
          case rel => exact ⟨k + 1, _, _, _, _, by omega, by go_num, HV5.out⟩
          case measure => simp [intOf]; omega
        · have hSr := hV5.s
          have hwk : IntKind.i64.wrap ((k : Int) + 1) = (k : Int) + 1 := wrap_small (by omega) (by omega)
          have hNw : w.heap.size + 1 < w5.heap.size := lt_of_some hV5.blk
          have hWc : w5.heap.size ≠ c := by have := HC.out.lt; omega
          have HB := hidOf (fun (u : World) (hu : Cur c a len cap u) => below_any a len cap c ((k : Int) + 1) u hu (by omega) (by omega))
          have HN := hidOf (fun (x : Int) (u : World) (hu : TokV c a len cap w w.heap.size (w.heap.size + 1) (.slice b1 m1 d1) (.slice b2 m1 d2) ps1 qs1 u) => specCancel_any b1 m1 d1 ps1 b2 m1 d2 qs1 x u hu.tin (by omega) (by omega))
          have HT := hidOf (hV5.keep (Below.refl _ _).drew)
          have HT0 := hidOf hV5
          have HLen := hidOf hV5.len
          have HWf := hidOf hV5.app.wf
          clear hV5
          go_upto_region 9 with fail
          go_cut [11, 12, 13] from 19 to 48 (fun s11 _ _ wx => ∃ (M : Nat) (v2 v2' : Value) (ps2 : List Int) (qs2 : List Bool), s11 = .pointer (some ⟨M, 0, none⟩) ∧ Nxt c a len cap w w.heap.size (w.heap.size + 1) M (.slice b1 m1 d1) (.slice b2 m1 d2) v2 v2' ps1 qs1 ps2 qs2 wx)
          case first =>
            go_region_held3 (fun w' => TokS (w.heap.size + 1) (.slice b1 m1 d1) (.slice b2 m1 d2) w') (first | (exact hSr.drew) | (exact (hSr.alloc _).drew) | (exact TokS.draw (by assumption) hd2 hNc) | (exact TokS.keep (by assumption) hb3) | (exact TokS.alloc (by assumption) _) | (exact hV3.s.alloc _) | (exact TokS.store2 hV3.s hNw _ _) | (exact TokS.store2 hV3.s (Nat.lt_of_lt_of_le hNw hd2.ex.size) _ _) | (exact TokS.store2 (by assumption) hNw _ _) | (exact TokS.store2 (by assumption) (Nat.lt_of_lt_of_le hNw hd2.ex.size) _ _))
              (first
                | (go_at_call 34; refine (HB.out _ ?cur).mono ?_; (case cur => first | with_reducible exact HT.out.dr.cur | with_reducible exact ((HT0.out.keep (bl_alloc (Below.refl _ _) _)).keep (Below.refl _ _).drew).dr.cur); rintro e w2 ⟨x, rfl, x0, x1, hd2⟩; first | (with_reducible have hV2 := HT.out.draw hd2) | ((with_reducible have hV2 := ((HT0.out.keep (bl_alloc (Below.refl _ _) _)).keep (Below.refl _ _).drew).draw hd2); have hM2 : w2.heap[w5.heap.size]? = some (tokO (.slice none 0 0) (.slice none 0 0)) := (hd2.ex.block w5.heap.size (show w5.heap.size < (w5.alloc (.cells #[.slice none 0 0, .slice none 0 0] 27)).heap.size by simp) (fun e => hWc (Option.some.inj e))).trans (heap_alloc_new _ _)))
                | (go_at_call 12; refine (HN.out x _ ?hv).mono ?_; (case hv => first | with_reducible exact hV2 | with_reducible exact hV2.keep (bl_alloc (Below.refl _ _) _)); rintro e w3 ⟨g3, cp3, g4, cp4, a7, m7, c7, rfl, hR3, _, _, hb3⟩; first | ((with_reducible have hV3 := hV2.keep hb3); first | (have hM3 := (hb3.block _ (lt_of_some hM2)).trans hM2; obtain ⟨q0, q1, qf⟩ := tok_cells hM3; have qf0 := qf 0; have qf1 := qf 1) | skip) | ((with_reducible have hV3 := (hV2.keep (bl_alloc (Below.refl _ _) _)).keep hb3); have hM3 : w3.heap[w2.heap.size]? = some (tokO (.slice none 0 0) (.slice none 0 0)) := (hb3.block w2.heap.size (by simp)).trans (heap_alloc_new _ _); obtain ⟨q0, q1, qf⟩ := tok_cells hM3; have qf0 := qf 0; have qf1 := qf 1)))
            all_goals have hl3 : ps1.length = (cancelL ps1 qs1 x).1.length := by rw [cancel_lens]; exact HLen.out
            all_goals have hw3 := HWf.out
            all_goals have hle3 : ps1.length ≤ 24 := by rw [HPM1.out]; exact hm1
            all_goals have hsz2 : w.heap.size ≤ w2.heap.size := hV2.dr.ex.size
            · have hA3 := (hR3.app hw3).mono hsz2
              go_wp2_with fail
              go_meet
              exact ⟨_, _, _, _, _, rfl, Nxt.ofAlloc hV3 hA3 hl3 hle3⟩
            · have hA3 := (hR3.app hw3).mono (Nat.le_trans hsz2 (show w2.heap.size ≤ (w2.alloc _).heap.size by simp))
              go_wp2_with fail
              go_meet
              exact ⟨_, _, _, _, _, rfl, Nxt.ofStore hV3 hA3 hM3 (Nat.lt_of_lt_of_le hNw hd2.ex.size) (Nat.lt_of_lt_of_le (show w.heap.size < w5.heap.size by omega) hd2.ex.size) hl3 hle3⟩
            · have hA3 := (hR3.app hw3).mono hsz2
              go_wp2_with fail
              go_meet
              exact ⟨_, _, _, _, _, rfl, Nxt.ofStore hV3 hA3 hM3 hNw (by omega) hl3 hle3⟩
          case rest =>
            obtain ⟨M2, v2, v2', ps2, qs2, rfl, hX⟩ := hcut
            obtain ⟨m2, e1, f1, e2, f2, rfl, rfl, hm2, hpm2⟩ := hX.form
            obtain ⟨m0, m1', _⟩ := tok_cells hX.blk
            obtain ⟨o0, o1, of⟩ := tok_cells hX.old.blk
            have of0 := of 0
            have of1 := of 1
            have HP2 := hidOf (hX.old.put hX.app hX.len hX.le)
            have hne2 := hX.ne
            clear hX HB HN HT HT0 HLen HWf hSr of hpm2
            go_wp2
            go_roundw
            case rel => exact ⟨k + 1, _, _, _, _, by omega, by go_num, HP2.out⟩
            case measure => simp [intOf]; omega
    · have hki : ¬ (k : Int) < (n : Int) := by omega
      obtain ⟨o0, o1, _⟩ := tok_cells hT.blk
      obtain ⟨r0, r1, rf⟩ := tok_cells hT.res
      have rf0 := rf 0
      have rf1 := rf 1
      have HA := hidOf ((hT.app.grown hT.res (setCell_grown wr w.heap.size 0 (.slice a1 m c1))).grown (x := .slice a1 m c1) (x' := .slice none 0 0) (by have := set_block (o := 0) (x := Value.slice a1 m c1) hT.res; simpa [tokO] using this) (setCell_grown _ w.heap.size 1 (.slice a2 m c2)))
      have HD := hidOf ((hT.dr.store hT.cur ⟨w.heap.size, 0, none⟩ (Nat.le_refl _) (.slice a1 m c1)).store hT.cur ⟨w.heap.size, 1, none⟩ (Nat.le_refl _) (.slice a2 m c2))
      have HLen := hidOf hT.len
      have HLe := hidOf hT.le
      clear hT rf
      go_wp2
      exact bodyPost_ret (v := .agg #[.slice a1 m c1, .slice a2 m c2]) (by simp [results, Try.results55, go_sem, r0, r1]) rfl ⟨_, _, rfl, _, _, HA.out, HLen.out, HLe.out, HD.out⟩
end Go.Proofs.Ytgklnpkeffobnaa
