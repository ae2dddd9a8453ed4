/-
  The program's stack of tests: laying one down, a term added.
-/
import Derived.Test.YtffpecdjfcgadaaGreatDoorZTm31
namespace Go.Proofs.YtffpecdjfcgadaaGreatDoor
open Go.RowKit Pl Il

theorem Stk.keep {R : List Nat → World → Value → Pd → Prop} (S : Sys R) {w0 : World} {L : Nat} {v : Value} {vs : List Value} {ps : List Pd} {u W : World} (h : Stk R w0 L v vs ps u) (hb : Below u.heap.size u W) : Stk R w0 L v vs ps W := by
  have hlt := (blk_cell h.blk).2.1
  refine ⟨bl_trans h.below hb, h.hL, by rw [hb.block L hlt]; exact h.blk, ?_, h.len, fun i hi => ?_⟩
  · refine h.row.kept (row := none) ⟨hb.os, hb.tape, hb.output, hb.size, fun k hk _ => hb.block k hk⟩ ?_
    cases v.ownBlock with
    | none => exact .inl rfl
    | some _ => exact .inr (by simp)
  · obtain ⟨F, hR, hF⟩ := h.rep i hi
    exact ⟨F, S.frame hR hb.size (fun j hj => hb.block j (S.lt hR j hj)), hF⟩
set_option maxHeartbeats 1000000 in
theorem lay_any {R : List Nat → World → Value → Pd → Prop} (S : Sys R) (w0 : World) (L : Nat) (v : Value) (vs : List Value) (ps : List Pd) (f : Value) (p : Pd) (F : List Nat) (u : World) (hS : Stk R w0 L v vs ps u) (hR : R F u f p) (hF : ∀ j, j ∈ F → j ≠ L ∧ v.ownBlock ≠ some j) (hn : vs.length ≤ 4194000) :
    Calls Tryz.prog 119 #[.pointer (some ⟨L, 0, none⟩), f] u fun e u' => e = .returned (.tuple #[]) ∧ ∃ v', Stk R w0 L v' (vs ++ [f]) (ps ++ [p]) u' := by
  obtain ⟨hbl, hL, hblk, hrow, hlen, hrep⟩ := hS
  obtain ⟨hc, hlt, hfr⟩ := blk_cell hblk
  obtain ⟨g, cap, w', hr, ho, hg, hgo⟩ := append_fn (L + 1) vs.length v vs f u (S.isfn hR) hrow (by omega) (by omega)
  have hgL : L + 1 ≤ g := (row_ge ho (j := g) rfl).1
  have hvL : v.ownBlock ≠ some L := fun e => by have := (row_ge hrow e).1; omega
  have hwL : w'.heap[L]? = some (.cells #[v] 175 (0, 0)) := by rw [hg.block L hlt (Ne.symm hvL)]; exact hblk
  obtain ⟨hc', hlt', hfr'⟩ := blk_cell hwL
  obtain ⟨W, hW⟩ : ∃ W, W = w'.setCell ⟨L, 0, none⟩ (.slice (some ⟨g, 0, none⟩) (vs.length + 1) cap) := ⟨_, rfl⟩
  have hWs : W.heap.size = w'.heap.size := by rw [hW]; simp
  have hsz := hg.size
  have hkeep : ∀ {F' : List Nat} {q : Value} {r : Pd}, R F' u q r → (∀ j, j ∈ F' → j ≠ L ∧ v.ownBlock ≠ some j) → R F' W q r ∧ ∀ j, j ∈ F' → j ≠ L ∧ (Value.slice (some ⟨g, 0, none⟩) (vs.length + 1) cap).ownBlock ≠ some j := fun hR' hF' => by
    refine ⟨S.frame hR' (by omega) (fun j hj => ?_), fun j hj => ⟨(hF' j hj).1, ?_⟩⟩
    · rw [hW, Below.heap_setCell _ _ _ _ (fun e => (hF' j hj).1 e), hg.block j (S.lt hR' j hj) (Ne.symm (hF' j hj).2)]
    · intro e
      have e' : g = j := by simpa [Value.ownBlock] using e
      subst e'
      rcases hgo with h | h
      · exact (hF' g hj).2 h
      · have := S.lt hR' g hj; omega
  have hfin : Stk R w0 L (.slice (some ⟨g, 0, none⟩) (vs.length + 1) cap) (vs ++ [f]) (ps ++ [p]) W := by
    refine ⟨?_, hL, by rw [hW]; exact blk_set hwL _, ?_, by simp [hlen], fun i hi => ?_⟩
    · rw [hW]
      exact (hbl.grown hg (by omega) (fun k hk => by have := (row_ge hrow hk).1; omega)).setCell (p := ⟨L, 0, none⟩) hL _
    · rw [hW, List.length_append]
      exact ho.kept (row := some L) ⟨rfl, rfl, rfl, by simp, fun k _ hk => Below.heap_setCell _ _ _ _ (by rintro rfl; exact hk rfl)⟩ (.inr (by simp [Value.ownBlock]; omega))
    · simp only [List.length_append, List.length_singleton] at hi
      by_cases hi' : i < vs.length
      · obtain ⟨F', hR', hF'⟩ := hrep i hi'
        obtain ⟨q1, q2⟩ := hkeep hR' hF'
        exact ⟨F', by rw [getD_snoc_lt hi', pg_snoc_lt (by omega)]; exact q1, q2⟩
      · obtain rfl : i = vs.length := by omega
        obtain ⟨q1, q2⟩ := hkeep hR hF
        exact ⟨F, by rw [getD_snoc_eq, ← hlen, pg_snoc_eq]; exact q1, q2⟩
  have HF := hidOf hfin
  have Hr := hidOf hr
  obtain ⟨kf, cf, rfl⟩ := S.isfn hR
  clear hfin hkeep hr ho hg hrow hrep hblk hbl hR hF hgo hwL hWs hsz
  go_enter Tryz.func119, Tryz.ntmps119
  go_wp2_with (at_builtin; refine wpList_append_run rfl _ _ 173 rfl _ _ _ rfl rfl Hr.out ?_)
  rw [← hW]
  first | go_ret | go_end0
  exact ⟨rfl, _, HF.out⟩
theorem snoc_form {vs : List Value} (h : 0 < vs.length) : ∃ us x, vs = us ++ [x] ∧ us.length + 1 = vs.length := by
  have hne : vs ≠ [] := by rintro rfl; simp at h
  refine ⟨vs.dropLast, vs.getLast hne, (List.dropLast_concat_getLast hne).symm, by rw [List.length_dropLast]; omega⟩
theorem stepP_8 {t : Tm} {ps : List Pd} (h : t.1 = 8) : stepP t ps = ps.take (ps.length - 1) ++ [fun b => !(pg ps (ps.length - 1) b)] := by simp [stepP, h]
theorem stepP_9 {t : Tm} {ps : List Pd} (h : t.1 = 9) : stepP t ps = ps.take (ps.length - 2) ++ [fun b => pg ps (ps.length - 1) b && pg ps (ps.length - 2) b] := by simp [stepP, h]
theorem stepP_10 {t : Tm} {ps : List Pd} (h : t.1 = 10) : stepP t ps = ps.take (ps.length - 2) ++ [fun b => pg ps (ps.length - 1) b || pg ps (ps.length - 2) b] := by simp [stepP, h]
theorem stepP_0 {t : Tm} {ps : List Pd} (h : cntM t.1 = 0) : stepP t ps = ps ++ [leafP t] := by
  unfold cntM at h
  split at h
  · cases h
  · split at h
    · cases h
    · rename_i h1 h2
      have h3 : ¬ t.1 = 9 := fun e => h2 (.inl e)
      have h4 : ¬ t.1 = 10 := fun e => h2 (.inr e)
      simp [stepP, h1, h3, h4]
theorem new_blk (u : World) (x : Value) (t : TypeId) : (u.alloc (.cells #[x] t)).heap[u.heap.size]? = some (.cells #[x] t (0, 0)) := by
  show (u.heap.push _)[u.heap.size]? = _
  simp
set_option maxHeartbeats 2000000 in
theorem add_not {R : List Nat → World → Value → Pd → Prop} (S : Sys R) (w0 : World) (L : Nat) (v : Value) (vs : List Value) (ps : List Pd) (n : Int) (s : ByteArray) (u : World) (hS : Stk R w0 L v vs ps u) (h1 : 1 ≤ vs.length) (hn : vs.length ≤ 4000000) :
    Calls Tryz.prog 112 #[.pointer (some ⟨L, 0, none⟩), .agg #[.int .i64 8, .int .i64 n, .string s]] u fun e u' => e = .returned (.tuple #[]) ∧ ∃ v' vs', Stk R w0 L v' vs' (stepP (8, n, s) ps) u' := by
  obtain ⟨us, x, rfl, hl⟩ := snoc_form (by omega : 0 < vs.length)
  have hq : ps.length - 1 = us.length := by rw [hS.len, ← hl]; rfl
  have hu : us.length ≤ 4194000 := by rw [← hl] at hn; omega
  have hu' : us.length ≤ 4194304 := by omega
  clear hn h1 hl
  have hS1 := hidOf (hS.keep S (bl_alloc (Below.refl _ _) (.cells #[.int .i64 8, .int .i64 n, .string s] 145)))
  clear hS
  go_enter Tryz.func112, Tryz.ntmps112
  go_wp2_with fail
  refine (take_any S w0 L v us x ps _ hS1.out hu').mono ?_
  rintro e w1 ⟨rfl, v1, hS2, hv, ⟨F, hR, hF⟩, hz1, ho1⟩
  clear hz1 ho1
  obtain ⟨kx, cx, rfl⟩ := S.isfn hR
  have b2 : Below w1.heap.size w1 (w1.alloc (.cells #[.func (.func kx) #[] cx] 163)) := bl_alloc (Below.refl _ _) _
  have hS3 := hS2.keep S b2
  have hR3 := S.nott w1.heap.size (S.frame hR b2.size (fun j hj => b2.block j (S.lt hR j hj))) (new_blk w1 _ _)
  have hlt1 := (blk_cell hS2.blk).2.1
  have hF3 : ∀ j, j ∈ (w1.heap.size :: F) → j ≠ L ∧ v1.ownBlock ≠ some j := fun j hj => by
    rcases List.mem_cons.1 hj with rfl | hj
    · exact ⟨by omega, fun e => by have := (row_ge hS2.row e).2; omega⟩
    · exact hF j hj
  have HL0 := lay_any S w0 L v1 us (ps.take us.length) _ _ _ _ hS3 hR3 hF3 hu
  have HL := hidOf HL0
  clear HL0
  clear hS1 hS2 hS3 hR hR3 hF hF3 b2 hv
  go_wp2_with fail
  refine (HL.out).mono ?_
  rintro e w2 ⟨rfl, v2, hS4⟩
  have HS := hidOf hS4
  clear hS4 HL
  go_wp2
  first | go_ret | go_end0
  exact ⟨rfl, v2, _, by rw [stepP_8 rfl, hq]; exact HS.out⟩
set_option maxHeartbeats 4000000 in
theorem add_and {R : List Nat → World → Value → Pd → Prop} (S : Sys R) (w0 : World) (L : Nat) (v : Value) (vs : List Value) (ps : List Pd) (n : Int) (s : ByteArray) (u : World) (hS : Stk R w0 L v vs ps u) (h1 : 2 ≤ vs.length) (hn : vs.length ≤ 4000000) :
    Calls Tryz.prog 112 #[.pointer (some ⟨L, 0, none⟩), .agg #[.int .i64 9, .int .i64 n, .string s]] u fun e u' => e = .returned (.tuple #[]) ∧ ∃ v' vs', Stk R w0 L v' vs' (stepP (9, n, s) ps) u' := by
  obtain ⟨us1, x, rfl, hl⟩ := snoc_form (by omega : 0 < vs.length)
  obtain ⟨us, y, rfl, hl'⟩ := snoc_form (by omega : 0 < us1.length)
  have hq : ps.length - 1 = us.length + 1 := by rw [hS.len, ← hl, ← hl']; rfl
  have hq2 : ps.length - 2 = us.length := by omega
  have hu : us.length ≤ 4194000 := by rw [← hl, ← hl'] at hn; omega
  have hu' : us.length ≤ 4194304 := by omega
  have hu2 : (us ++ [y]).length ≤ 4194304 := by rw [← hl']; omega
  have hll : (us ++ [y]).length = us.length + 1 := by simp
  have hps : ∀ P : List Pd, (P.take (us.length + 1)).take us.length = P.take us.length := fun P => by rw [List.take_take, Nat.min_eq_left (by omega)]
  have hpg : pg (ps.take (us.length + 1)) us.length = pg ps us.length := pg_take (by omega)
  have hS1 := hidOf (hS.keep S (bl_alloc (Below.refl _ _) (.cells #[.int .i64 9, .int .i64 n, .string s] 145)))
  clear hS hn h1 hl hl'
  go_enter Tryz.func112, Tryz.ntmps112
  go_wp2_with fail
  refine (take_any S w0 L v (us ++ [y]) x ps _ hS1.out hu2).mono ?_
  rintro e w1 ⟨rfl, v1, hS2, hv, ⟨F, hR, hF⟩, hz1, ho1⟩
  clear hz1 ho1
  obtain ⟨kx, cx, rfl⟩ := S.isfn hR
  rw [hll] at hS2 hR
  have HS2 := hidOf hS2
  have HR := hidOf (And.intro hR hF)
  clear hS2 hR hF hS1
  go_wp2_with fail
  refine (take_any S w0 L v1 us y _ _ HS2.out hu').mono ?_
  rintro e w2 ⟨rfl, v2, hS3, hv2, ⟨F', hR', hF'⟩, hz2, ho2⟩
  rw [hps] at hS3
  rw [hpg] at hR'
  obtain ⟨ky, cy, rfl⟩ := S.isfn hR'
  have hR2 := S.frame HR.out.1 (W := w2) (by omega) (fun j hj => ho2 j (HR.out.2 j hj).1)
  have hF2 : ∀ j, j ∈ F → j ≠ L ∧ v2.ownBlock ≠ some j := fun j hj => ⟨(HR.out.2 j hj).1, by rw [hv2]; exact (HR.out.2 j hj).2⟩
  have b3 : Below w2.heap.size w2 ((w2.alloc (.cells #[.func (.func kx) #[] cx] 163)).alloc (.cells #[.func (.func ky) #[] cy] 163)) := bl_alloc (bl_alloc (Below.refl _ _) _) _
  have hS4 := hS3.keep S b3
  have n1 : ((w2.alloc (.cells #[.func (.func kx) #[] cx] 163)).alloc (.cells #[.func (.func ky) #[] cy] 163)).heap[w2.heap.size]? = some (.cells #[.func (.func kx) #[] cx] 163 (0, 0)) := by
    have bA : Below (w2.alloc (.cells #[.func (.func kx) #[] cx] 163)).heap.size (w2.alloc (.cells #[.func (.func kx) #[] cx] 163)) ((w2.alloc (.cells #[.func (.func kx) #[] cx] 163)).alloc (.cells #[.func (.func ky) #[] cy] 163)) := bl_alloc (Below.refl _ _) _
    rw [bA.block _ (by simp)]; exact new_blk w2 _ _
  have n2 : ((w2.alloc (.cells #[.func (.func kx) #[] cx] 163)).alloc (.cells #[.func (.func ky) #[] cy] 163)).heap[w2.heap.size + 1]? = some (.cells #[.func (.func ky) #[] cy] 163 (0, 0)) := by
    have e : w2.heap.size + 1 = (w2.alloc (.cells #[.func (.func kx) #[] cx] 163)).heap.size := by simp
    rw [e]; exact new_blk _ _ _
  have hR4 := S.andd w2.heap.size (w2.heap.size + 1) (S.frame hR2 b3.size (fun j hj => b3.block j (S.lt hR2 j hj))) (S.frame hR' b3.size (fun j hj => b3.block j (S.lt hR' j hj))) n1 n2
  have hlt1 := (blk_cell hS3.blk).2.1
  have hF4 : ∀ j, j ∈ (w2.heap.size :: (w2.heap.size + 1) :: (F ++ F')) → j ≠ L ∧ v2.ownBlock ≠ some j := fun j hj => by
    rcases List.mem_cons.1 hj with rfl | hj
    · exact ⟨by omega, fun e => by have := (row_ge hS3.row e).2; omega⟩
    · rcases List.mem_cons.1 hj with rfl | hj
      · exact ⟨by omega, fun e => by have := (row_ge hS3.row e).2; omega⟩
      · rcases List.mem_append.1 hj with hj | hj
        · exact hF2 j hj
        · exact hF' j hj
  have HL := hidOf (lay_any S w0 L v2 us (ps.take us.length) _ _ _ _ hS4 hR4 hF4 hu)
  clear hS3 hS4 hR2 hR4 hF2 hF4 b3 hv hv2 n1 n2 hR' hF' HS2 HR hz2 ho2
  go_wp2_with fail
  refine (HL.out).mono ?_
  rintro e w3 ⟨rfl, v3, hS5⟩
  have HS := hidOf hS5
  clear hS5 HL
  go_wp2
  first | go_ret | go_end0
  exact ⟨rfl, v3, _, by rw [stepP_9 rfl, hq, hq2]; exact HS.out⟩
set_option maxHeartbeats 4000000 in
theorem add_or {R : List Nat → World → Value → Pd → Prop} (S : Sys R) (w0 : World) (L : Nat) (v : Value) (vs : List Value) (ps : List Pd) (n : Int) (s : ByteArray) (u : World) (hS : Stk R w0 L v vs ps u) (h1 : 2 ≤ vs.length) (hn : vs.length ≤ 4000000) :
    Calls Tryz.prog 112 #[.pointer (some ⟨L, 0, none⟩), .agg #[.int .i64 10, .int .i64 n, .string s]] u fun e u' => e = .returned (.tuple #[]) ∧ ∃ v' vs', Stk R w0 L v' vs' (stepP (10, n, s) ps) u' := by
  obtain ⟨us1, x, rfl, hl⟩ := snoc_form (by omega : 0 < vs.length)
  obtain ⟨us, y, rfl, hl'⟩ := snoc_form (by omega : 0 < us1.length)
  have hq : ps.length - 1 = us.length + 1 := by rw [hS.len, ← hl, ← hl']; rfl
  have hq2 : ps.length - 2 = us.length := by omega
  have hu : us.length ≤ 4194000 := by rw [← hl, ← hl'] at hn; omega
  have hu' : us.length ≤ 4194304 := by omega
  have hu2 : (us ++ [y]).length ≤ 4194304 := by rw [← hl']; omega
  have hll : (us ++ [y]).length = us.length + 1 := by simp
  have hps : ∀ P : List Pd, (P.take (us.length + 1)).take us.length = P.take us.length := fun P => by rw [List.take_take, Nat.min_eq_left (by omega)]
  have hpg : pg (ps.take (us.length + 1)) us.length = pg ps us.length := pg_take (by omega)
  have hS1 := hidOf (hS.keep S (bl_alloc (Below.refl _ _) (.cells #[.int .i64 10, .int .i64 n, .string s] 145)))
  clear hS hn h1 hl hl'
  go_enter Tryz.func112, Tryz.ntmps112
  go_wp2_with fail
  refine (take_any S w0 L v (us ++ [y]) x ps _ hS1.out hu2).mono ?_
  rintro e w1 ⟨rfl, v1, hS2, hv, ⟨F, hR, hF⟩, hz1, ho1⟩
  clear hz1 ho1
  obtain ⟨kx, cx, rfl⟩ := S.isfn hR
  rw [hll] at hS2 hR
  have HS2 := hidOf hS2
  have HR := hidOf (And.intro hR hF)
  clear hS2 hR hF hS1
  go_wp2_with fail
  refine (take_any S w0 L v1 us y _ _ HS2.out hu').mono ?_
  rintro e w2 ⟨rfl, v2, hS3, hv2, ⟨F', hR', hF'⟩, hz2, ho2⟩
  rw [hps] at hS3
  rw [hpg] at hR'
  obtain ⟨ky, cy, rfl⟩ := S.isfn hR'
  have hR2 := S.frame HR.out.1 (W := w2) (by omega) (fun j hj => ho2 j (HR.out.2 j hj).1)
  have hF2 : ∀ j, j ∈ F → j ≠ L ∧ v2.ownBlock ≠ some j := fun j hj => ⟨(HR.out.2 j hj).1, by rw [hv2]; exact (HR.out.2 j hj).2⟩
  have b3 : Below w2.heap.size w2 ((w2.alloc (.cells #[.func (.func kx) #[] cx] 163)).alloc (.cells #[.func (.func ky) #[] cy] 163)) := bl_alloc (bl_alloc (Below.refl _ _) _) _
  have hS4 := hS3.keep S b3
  have n1 : ((w2.alloc (.cells #[.func (.func kx) #[] cx] 163)).alloc (.cells #[.func (.func ky) #[] cy] 163)).heap[w2.heap.size]? = some (.cells #[.func (.func kx) #[] cx] 163 (0, 0)) := by
    have bA : Below (w2.alloc (.cells #[.func (.func kx) #[] cx] 163)).heap.size (w2.alloc (.cells #[.func (.func kx) #[] cx] 163)) ((w2.alloc (.cells #[.func (.func kx) #[] cx] 163)).alloc (.cells #[.func (.func ky) #[] cy] 163)) := bl_alloc (Below.refl _ _) _
    rw [bA.block _ (by simp)]; exact new_blk w2 _ _
  have n2 : ((w2.alloc (.cells #[.func (.func kx) #[] cx] 163)).alloc (.cells #[.func (.func ky) #[] cy] 163)).heap[w2.heap.size + 1]? = some (.cells #[.func (.func ky) #[] cy] 163 (0, 0)) := by
    have e : w2.heap.size + 1 = (w2.alloc (.cells #[.func (.func kx) #[] cx] 163)).heap.size := by simp
    rw [e]; exact new_blk _ _ _
  have hR4 := S.orr w2.heap.size (w2.heap.size + 1) (S.frame hR2 b3.size (fun j hj => b3.block j (S.lt hR2 j hj))) (S.frame hR' b3.size (fun j hj => b3.block j (S.lt hR' j hj))) n1 n2
  have hlt1 := (blk_cell hS3.blk).2.1
  have hF4 : ∀ j, j ∈ (w2.heap.size :: (w2.heap.size + 1) :: (F ++ F')) → j ≠ L ∧ v2.ownBlock ≠ some j := fun j hj => by
    rcases List.mem_cons.1 hj with rfl | hj
    · exact ⟨by omega, fun e => by have := (row_ge hS3.row e).2; omega⟩
    · rcases List.mem_cons.1 hj with rfl | hj
      · exact ⟨by omega, fun e => by have := (row_ge hS3.row e).2; omega⟩
      · rcases List.mem_append.1 hj with hj | hj
        · exact hF2 j hj
        · exact hF' j hj
  have HL := hidOf (lay_any S w0 L v2 us (ps.take us.length) _ _ _ _ hS4 hR4 hF4 hu)
  clear hS3 hS4 hR2 hR4 hF2 hF4 b3 hv hv2 n1 n2 hR' hF' HS2 HR hz2 ho2
  go_wp2_with fail
  refine (HL.out).mono ?_
  rintro e w3 ⟨rfl, v3, hS5⟩
  have HS := hidOf hS5
  clear hS5 HL
  go_wp2
  first | go_ret | go_end0
  exact ⟨rfl, v3, _, by rw [stepP_10 rfl, hq, hq2]; exact HS.out⟩
set_option maxHeartbeats 4000000 in
theorem add_leaf {R : List Nat → World → Value → Pd → Prop} (S : Sys R) (w0 : World) (L : Nat) (v : Value) (vs : List Value) (ps : List Pd) (op n : Int) (s : ByteArray) (u : World) (hS : Stk R w0 L v vs ps u) (hok : okTm (op, n, s) = true) (hc : cntM op = 0) (hs : s.size ≤ maxLen) (hn : vs.length ≤ 4000000) :
    Calls Tryz.prog 112 #[.pointer (some ⟨L, 0, none⟩), .agg #[.int .i64 op, .int .i64 n, .string s]] u fun e u' => e = .returned (.tuple #[]) ∧ ∃ v' vs', Stk R w0 L v' vs' (stepP (op, n, s) ps) u' := by
  have hne : ¬ op = 8 ∧ ¬ op = 9 ∧ ¬ op = 10 := by
    unfold cntM at hc
    split at hc
    · cases hc
    · split at hc
      · cases hc
      · rename_i h1 h2
        exact ⟨h1, fun e => h2 (.inl e), fun e => h2 (.inr e)⟩
  have e1 : (op == 8) = false := by simp [hne.1]
  have e2 : (op == 9) = false := by simp [hne.2.1]
  have e3 : (op == 10) = false := by simp [hne.2.2]
  have hS1 := hidOf (hS.keep S (bl_alloc (Below.refl _ _) (.cells #[.int .i64 op, .int .i64 n, .string s] 145)))
  have HC := hidOf hc
  have HT := hidOf (S.leaf (op, n, s) (u.alloc (.cells #[.int .i64 op, .int .i64 n, .string s] 145)) hok hc hs)
  have hu : vs.length ≤ 4194000 := by omega
  clear hS hne hok hc hn
  go_enter Tryz.func112, Tryz.ntmps112
  go_wp2_with fail
  refine (HT.out).mono ?_
  rintro e w1 ⟨f, F, rfl, hR, hF, hb1⟩
  have hS2 := hS1.out.keep S hb1
  have hF2 : ∀ j, j ∈ F → j ≠ L ∧ v.ownBlock ≠ some j := fun j hj => by
    have h1 := hF j hj
    have h2 := (blk_cell hS1.out.blk).2.1
    exact ⟨by omega, fun e => by have := (row_ge hS1.out.row e).2; omega⟩
  obtain ⟨kf, cf, rfl⟩ := S.isfn hR
  have HL := hidOf (lay_any S w0 L v vs ps _ _ _ _ hS2 hR hF2 hu)
  clear hS2 hR hF2 hF hb1 hS1 HT
  go_wp2_with fail
  refine (HL.out).mono ?_
  rintro e w3 ⟨rfl, v3, hS5⟩
  have HS := hidOf hS5
  clear hS5 HL
  go_wp2
  first | go_ret | go_end0
  exact ⟨rfl, v3, _, by rw [stepP_0 HC.out]; exact HS.out⟩
theorem add_any {R : List Nat → World → Value → Pd → Prop} (S : Sys R) (w0 : World) (L : Nat) (v : Value) (vs : List Value) (ps : List Pd) (t : Tm) (u : World) (hS : Stk R w0 L v vs ps u) (hok : okTm t = true) (hc : ¬ vs.length < cntM t.1) (hs : t.2.2.size ≤ maxLen) (hn : vs.length ≤ 4000000) :
    Calls Tryz.prog 112 #[.pointer (some ⟨L, 0, none⟩), .agg #[.int .i64 t.1, .int .i64 t.2.1, .string t.2.2]] u fun e u' => e = .returned (.tuple #[]) ∧ ∃ v' vs', Stk R w0 L v' vs' (stepP t ps) u' := by
  obtain ⟨op, n, s⟩ := t
  simp only at hc hs ⊢
  by_cases h1 : op = 8
  · subst h1; exact add_not S w0 L v vs ps n s u hS (by have e : cntM 8 = 1 := rfl; omega) hn
  by_cases h2 : op = 9
  · subst h2; exact add_and S w0 L v vs ps n s u hS (by have e : cntM 9 = 2 := rfl; omega) hn
  by_cases h3 : op = 10
  · subst h3; exact add_or S w0 L v vs ps n s u hS (by have e : cntM 10 = 2 := rfl; omega) hn
  exact add_leaf S w0 L v vs ps op n s u hS hok (by simp [cntM, h1, h2, h3]) hs hn
end Go.Proofs.YtffpecdjfcgadaaGreatDoor
