/-
  Walks of the specification's tokens: one is cancelled.
-/
import Derived.Test.YtgklnpkeffobnaaBB7
namespace Go.Proofs.Ytgklnpkeffobnaa
open Go.RowKit Pl Il

def cancelStep (s : List Bool × List Int) (i : Int) : List Bool × List Int := if s.1.getD i.toNat false then s else (s.1.set i.toNat true, s.2 ++ [i])
/-- The first k of u have gone off: who is off then, who has been told. -/
def cancelTo (qs : List Bool) (u : List Int) (k : Nat) : List Bool × List Int := (u.take k).foldl cancelStep (qs, [])
/-- What Cancel answers: who is off, who is told, the code. -/
def cancelL (ps : List Int) (qs : List Bool) (x : Int) : List Bool × List Int × Int :=
  if !tokL ps qs then (qs, [], 1) else if !tokIs ps x then (qs, [], 3) else ((cancelTo qs (underL ps qs x) (underL ps qs x).length).1, (cancelTo qs (underL ps qs x) (underL ps qs x).length).2, 0)
theorem cancel_bad {ps : List Int} {qs : List Bool} {x : Int} (h : tokL ps qs = false) : cancelL ps qs x = (qs, [], 1) := by simp [cancelL, h]
theorem cancel_none {ps : List Int} {qs : List Bool} {x : Int} (h : tokL ps qs = true) (h2 : tokIs ps x = false) : cancelL ps qs x = (qs, [], 3) := by simp [cancelL, h, h2]
theorem cancel_done {ps : List Int} {qs : List Bool} {x : Int} (h : tokL ps qs = true) (h2 : tokIs ps x = true) :
    cancelL ps qs x = ((cancelTo qs (underL ps qs x) (underL ps qs x).length).1, (cancelTo qs (underL ps qs x) (underL ps qs x).length).2, 0) := by
  unfold cancelL; rw [h, h2]; rfl
theorem cancelTo_zero (qs : List Bool) (u : List Int) : cancelTo qs u 0 = (qs, []) := rfl
theorem cancelTo_step {qs : List Bool} {u : List Int} {k : Nat} {y : Int} (hk : k < u.length) (hy : u.getD k 0 = y) : cancelTo qs u (k + 1) = cancelStep (cancelTo qs u k) y := by
  have e : u.getD k 0 = u[k] := by simp [List.getD, List.getElem?_eq_getElem hk]
  unfold cancelTo
  rw [List.take_succ_eq_append_getElem hk, List.foldl_append, ← hy, e]; rfl
theorem cancel_yes {s : List Bool × List Int} {i : Int} (h : s.1.getD i.toNat false = true) : cancelStep s i = s := by unfold cancelStep; rw [if_pos h]
theorem cancel_no {s : List Bool × List Int} {i : Int} (h : s.1.getD i.toNat false = false) : cancelStep s i = (s.1.set i.toNat true, s.2 ++ [i]) := by unfold cancelStep; rw [if_neg (by rw [h]; simp)]
theorem cancelStep_len (s : List Bool × List Int) (i : Int) : (cancelStep s i).1.length = s.1.length ∧ (cancelStep s i).2.length ≤ s.2.length + 1 := by
  unfold cancelStep
  split
  · exact ⟨rfl, by omega⟩
  · exact ⟨by simp, by simp⟩
theorem cancelFold_len : ∀ (l : List Int) (s : List Bool × List Int), (l.foldl cancelStep s).1.length = s.1.length ∧ (l.foldl cancelStep s).2.length ≤ s.2.length + l.length
  | [], s => ⟨rfl, by simp⟩
  | i :: l, s => by
    have h1 := cancelStep_len s i
    have h2 := cancelFold_len l (cancelStep s i)
    rw [List.foldl_cons, List.length_cons]
    exact ⟨h2.1.trans h1.1, by omega⟩
theorem cancelTo_len (qs : List Bool) (u : List Int) (k : Nat) : (cancelTo qs u k).1.length = qs.length ∧ (cancelTo qs u k).2.length ≤ k := by
  have := cancelFold_len (u.take k) (qs, [])
  unfold cancelTo
  refine ⟨this.1, Nat.le_trans this.2 ?_⟩
  simp [List.length_take]; omega

/-- One place of a row of truth values is written. -/
theorem ownsB_set {B : Nat} {w : World} {g n cap : Nat} {qs : List Bool} (h : OwnsB B w g n cap qs) (i : Nat) (b : Bool) : OwnsB B (w.setCell ⟨g, i, none⟩ (.bool b)) g n cap (qs.set i b) := by
  have hlt := (ownsB_parts h).2.2.1
  obtain ⟨hl, ⟨e, _⟩ | ⟨g1, c1, cur, e, hB, hg, hc, hm, hs, ht⟩⟩ := h
  · cases e
  · cases e
    refine ⟨by simpa using hl, .inr ⟨g, cap, cur.setIfInBounds i (.bool b), rfl, hB, ?_, hc, hm, by simpa using hs, ?_⟩⟩
    · have hg' : w.heap[g] = .cells cur 4 (0, 0) := by
        rw [Array.getElem?_eq_getElem hlt] at hg
        exact Option.some.inj hg
      simp [World.setCell, Array.getElem_modify, hlt, hg']
    · rw [Array.toList_setIfInBounds, List.take_set, ht, List.map_set]
theorem ownsB_cell {B : Nat} {w : World} {g n cap : Nat} {qs : List Bool} (h : OwnsB B w g n cap qs) {i : Nat} (hi : i < n) : w.cell? ⟨g, i, none⟩ = some (.bool (qs.getD i false)) ∧ w.frozen? ⟨g, i, none⟩ = false := by
  have ho := (ownsB_parts h).2.2.2.2.2
  rcases ho.ints.row with h0 | ⟨b, off, e, _, hc⟩
  · omega
  · cases e
    rcases ho.own with h0 | ⟨b, off, e, _, hf⟩
    · omega
    · cases e
      have h1 := hc i hi
      have h2 := hf i hi
      rw [Nat.zero_add] at h1 h2
      exact ⟨h1, h2⟩

theorem under_range {ps : List Int} {qs : List Bool} {x y : Int} (h : y ∈ underL ps qs x) : 0 ≤ y ∧ y < (ps.length : Int) := by
  unfold underL at h
  split at h
  · rename_i hc
    simp only [Bool.and_eq_true] at hc
    have h2 := tokIs_lt hc.2
    have := under_mem ps x.toNat (ps.length - x.toNat) y h
    omega
  · cases h
/-- Nothing of w has turned but blocks p and q. -/
structure Kept2 (p q : Nat) (w w' : World) : Prop where
  os : w'.os = w.os
  tape : w'.tape = w.tape
  output : w'.output = w.output
  size : w.heap.size ≤ w'.heap.size
  block : ∀ k, k < w.heap.size → k ≠ p → k ≠ q → w'.heap[k]? = w.heap[k]?
theorem Kept2.refl (p q : Nat) (w : World) : Kept2 p q w w := ⟨rfl, rfl, rfl, Nat.le_refl _, fun _ _ _ _ => rfl⟩
theorem Kept2.grown {p q : Nat} {w u u' : World} {g : Nat} (h : Kept2 p q w u) (hg : u.grownBy u' (some g)) (hq : g = p ∨ g = q ∨ w.heap.size ≤ g) : Kept2 p q w u' :=
  ⟨hg.os.trans h.os, hg.tape.trans h.tape, hg.output.trans h.output, Nat.le_trans h.size hg.size, fun k hk h1 h2 => (hg.block k (Nat.lt_of_lt_of_le hk h.size) (by intro e; cases e; omega)).trans (h.block k hk h1 h2)⟩
theorem Kept2.keep {p q : Nat} {w u u' : World} (h : Kept2 p q w u) (hb : Below u.heap.size u u') : Kept2 p q w u' :=
  ⟨hb.os.trans h.os, hb.tape.trans h.tape, hb.output.trans h.output, Nat.le_trans h.size hb.size, fun k hk h1 h2 => (hb.block k (Nat.lt_of_lt_of_le hk h.size)).trans (h.block k hk h1 h2)⟩
theorem Kept2.below {p q B : Nat} {w u : World} (h : Kept2 p q w u) (hB : B ≤ w.heap.size) (hp : B ≤ p) (hq : B ≤ q) : Below B w u := ⟨h.os, h.tape, h.output, h.size, fun k hk => h.block k (by omega) (by omega) (by omega)⟩
theorem grown_set (w : World) (b o : Nat) (x : Value) : w.grownBy (w.setCell ⟨b, o, none⟩ x) (some b) := ⟨rfl, rfl, rfl, by simp, fun k _ hk => Below.heap_setCell _ _ _ _ (by rintro rfl; exact hk rfl)⟩
theorem Box2.kept2 {N p q : Nat} {v0 v1 : Value} {w u : World} (h : Box2 N v0 v1 w) (hk : Kept2 p q w u) (h1 : N ≠ p) (h2 : N ≠ q) : Box2 N v0 v1 u := by
  have key : u.heap[N]? = w.heap[N]? := hk.block N h.lt h1 h2
  exact ⟨Nat.lt_of_lt_of_le h.lt hk.size, by rw [← h.c0]; exact World.cell?_of_block key, by rw [← h.c1]; exact World.cell?_of_block key, fun k => by rw [← h.fr k]; exact World.frozen?_of_block key⟩
theorem owns_kept2 {B p q : Nat} {w u : World} {g n cap : Nat} {xs : List Int} (h : Owns B w g n cap xs) (hk : Kept2 p q w u) (h1 : g ≠ p) (h2 : g ≠ q) : Owns B u g n cap xs := by
  have hlt := (owns_parts h).2.2.1
  obtain ⟨hl, ⟨e, _⟩ | ⟨g', c', cur, e, hB, hg, hr⟩⟩ := h
  · cases e
  · cases e
    exact ⟨hl, .inr ⟨g, cap, cur, rfl, hB, by rw [hk.block g hlt h1 h2]; exact hg, hr⟩⟩

set_option maxHeartbeats 2000000 in
theorem specCancel_any (a : Option Addr) (n c : Nat) (ps : List Int) (a' : Option Addr) (n' c' : Nat) (qs : List Bool) (x : Int) (w : World) (hT : TokIn w a n ps a' n' qs) (hn : n ≤ 2097152) (hn' : n' ≤ 2097152) :
    Calls Try.prog 12 #[.agg #[.slice a n c, .slice a' n' c'], .int .i64 x] w fun e w' => ∃ g cp g' cp' a3 m3 c3, e = .returned (.tuple #[.agg #[.slice (some ⟨g, 0, none⟩) n cp, .slice (some ⟨g', 0, none⟩) n' cp'], .slice a3 m3 c3, .int .i64 (cancelL ps qs x).2.2]) ∧
      TokRows w.heap.size w' g n cp ps g' n' cp' (cancelL ps qs x).1 ∧ Il.OwnAt w.heap.size w' a3 m3 (cancelL ps qs x).2.1 ∧ (m3 = 0 ∨ ∀ b off, a3 = some ⟨b, off, none⟩ → b ≠ g ∧ b ≠ g') ∧ Below w.heap.size w w' := by
  generalize hW0 : w.alloc (.cells #[.slice a n c, .slice a' n' c'] 27) = W0
  generalize hW1 : W0.alloc (.cells #[.slice none 0 0, .slice none 0 0] 27) = W1
  have B0 : Below w.heap.size w W0 := by subst hW0; exact bl_alloc (Below.refl _ _) _
  have B1 : Below w.heap.size w W1 := by subst hW1; exact bl_alloc B0 _
  have s0 : W0.heap.size = w.heap.size + 1 := by subst hW0; simp
  have s1 : W1.heap.size = w.heap.size + 2 := by subst hW1; simp [s0]
  have x0 : Box2 w.heap.size (.slice a n c) (.slice a' n' c') W1 := by subst hW1 hW0; exact (Box2.new w _ _ _).alloc _
  have x1 : Box2 (w.heap.size + 1) (.slice none 0 0) (.slice none 0 0) W1 := by subst hW1; rw [← s0]; exact Box2.new W0 _ _ _
  have hlp := hT.ints.len
  have hlq := hT.bools.len
  have HT := hidOf hT
  obtain ⟨_, p0, p1, _⟩ := id x0
  have X0 := hidOf x0
  have X1 := hidOf x1
  clear hT x0 x1 B0
  go_enter Try.func12, Try.ntmps12
  go_wp2_with fail
  refine (l3Copy_any a n c ps a' n' c' qs _ (HT.out.keep B1) hn hn').mono ?_
  rintro e w2 ⟨g, cp, g', cp', rfl, hTR, hb2⟩
  rw [s1] at hTR
  have y0 := X0.out.keep hb2
  have y1 := X1.out.keep hb2
  have hB2 := bl_trans B1 hb2
  have hgl := (owns_parts hTR.one).2.2.1
  have hgl' := (ownsB_parts hTR.two).2.2.1
  have hgb := (owns_parts hTR.one).2.1
  have hgb' := (ownsB_parts hTR.two).2.1
  have hz2 := y1.lt
  generalize hW3 : w2.alloc (.cells #[.slice (some ⟨g, 0, none⟩) n cp, .slice (some ⟨g', 0, none⟩) n' cp'] 27) = W3
  have b3 : Below w2.heap.size w2 W3 := by subst hW3; exact bl_alloc (Below.refl _ _) _
  have y2 : Box2 w2.heap.size (.slice (some ⟨g, 0, none⟩) n cp) (.slice (some ⟨g', 0, none⟩) n' cp') W3 := by subst hW3; exact Box2.new w2 _ _ _
  have z0 := y0.keep b3
  have z1 := y1.keep b3
  have tr3 := hTR.keep b3
  have hB3 := bl_trans hB2 b3
  obtain ⟨_, r0, r1, _⟩ := id z0
  have Z0 := hidOf z0
  have Z1 := hidOf z1
  have Y2 := hidOf y2
  have TR := hidOf tr3
  clear hTR b3 y0 y1 y2 z0 z1 X0 X1 p0 p1 hb2 hB2 B1 hW0 hW1 tr3
  go_wp2_with fail
  refine (specTokensOk_any a n c ps a' n' c' qs _ (HT.out.keep hB3) hn hn').mono ?_
  rintro e w4 ⟨rfl, hb4⟩
  have v0 := Z0.out.keep hb4
  have v1 := Z1.out.keep hb4
  have v2 := Y2.out.keep hb4
  have tr := TR.out.keep hb4
  have hB4 := bl_trans hB3 hb4
  obtain ⟨_, r0, r1, _⟩ := id v0
  obtain ⟨_, t0, t1, tf⟩ := id v1
  obtain ⟨_, u0, u1, uf⟩ := id v2
  have tf0 := tf 0
  have tf1 := tf 1
  have uf0 := uf 0
  have uf1 := uf 1
  have V0 := hidOf v0
  have V1 := hidOf v1
  have V2 := hidOf v2
  have TR4 := hidOf tr
  have hM1 : ¬ w2.heap.size = w.heap.size + 1 := by omega
  have hM0 : ¬ w2.heap.size = w.heap.size := by omega
  have hM1' : ¬ w.heap.size + 1 = w2.heap.size := by omega
  have hM0' : ¬ w.heap.size = w2.heap.size := by omega
  clear v0 v1 v2 tr Z0 Z1 Y2 TR hb4 hB3 hW3
  cases hl : tokL ps qs
  · have hF := ((TR4.out.far (w.heap.size + 1) 0 (by omega) (.slice (some ⟨g, 0, none⟩) n cp)).far (w.heap.size + 1) 1 (by omega) (.slice (some ⟨g', 0, none⟩) n' cp')).mono (B' := w.heap.size) (by omega)
    have hBF := (hB4.setCell (p := ⟨w.heap.size + 1, 0, none⟩) (by simp) (.slice (some ⟨g, 0, none⟩) n cp)).setCell (p := ⟨w.heap.size + 1, 1, none⟩) (by simp) (.slice (some ⟨g', 0, none⟩) n' cp')
    have HF := hidOf hF
    clear hF
    go_wp2
    refine bodyPost_ret (v := .tuple #[.agg #[.slice (some ⟨g, 0, none⟩) n cp, .slice (some ⟨g', 0, none⟩) n' cp'], .slice none 0 0, .int .i64 1]) (by simp [results, Try.results12, go_sem, t0, t1]) rfl ?_
    rw [cancel_bad hl]
    exact ⟨_, _, _, _, _, _, _, rfl, HF.out, ⟨⟨rfl, .inl rfl⟩, .inl rfl⟩, .inl rfl, hBF⟩
  · have hin := in_any x 0 ((n : Int) - 1) w4
    have e1 : (decide (0 ≤ x) && decide (x ≤ (n : Int) - 1)) = tokIs ps x := by rw [tokIs, hlp]
    rw [e1] at hin
    have HIn := hidOf hin
    clear hin e1
    go_wp2_with fail
    refine HIn.out.mono ?_
    rintro e w5 ⟨rfl, rfl⟩
    cases hi : tokIs ps x
    · have hF := ((TR4.out.far (w.heap.size + 1) 0 (by omega) (.slice (some ⟨g, 0, none⟩) n cp)).far (w.heap.size + 1) 1 (by omega) (.slice (some ⟨g', 0, none⟩) n' cp')).mono (B' := w.heap.size) (by omega)
      have hBF := (hB4.setCell (p := ⟨w.heap.size + 1, 0, none⟩) (by simp) (.slice (some ⟨g, 0, none⟩) n cp)).setCell (p := ⟨w.heap.size + 1, 1, none⟩) (by simp) (.slice (some ⟨g', 0, none⟩) n' cp')
      have HF := hidOf hF
      clear hF
      go_wp2
      refine bodyPost_ret (v := .tuple #[.agg #[.slice (some ⟨g, 0, none⟩) n cp, .slice (some ⟨g', 0, none⟩) n' cp'], .slice none 0 0, .int .i64 3]) (by simp [results, Try.results12, go_sem, t0, t1]) rfl ?_
      rw [cancel_none hl hi]
      exact ⟨_, _, _, _, _, _, _, rfl, HF.out, ⟨⟨rfl, .inl rfl⟩, .inl rfl⟩, .inl rfl, hBF⟩
    · generalize hW6 : w5.alloc (.cells #[] 3) = W6
      have b6 : Below w5.heap.size w5 W6 := by subst hW6; exact bl_alloc (Below.refl _ _) _
      have s6 : W6.heap.size = w5.heap.size + 1 := by subst hW6; simp
      have o6 : Owns w5.heap.size W6 w5.heap.size 0 0 [] := by subst hW6; exact owns_empty w5
      obtain ⟨_, r0, r1, _⟩ := V0.out.keep b6
      have hU := specUnder_any a n c ps a' n' c' qs x W6 (HT.out.keep (bl_trans hB4 b6)) hn hn'
      have HU := hidOf hU
      clear hU
      go_wp2_with fail
      refine HU.out.mono ?_
      rintro e w7 ⟨gl, ml, cl, rfl, hol, hb7⟩
      have b67 := bl_trans b6 hb7
      have o7 := owns_keep o6 hb7
      have tr7 := (TR4.out.keep b67)
      have v1 := V1.out.keep b67
      have v2 := V2.out.keep b67
      have hB7 := bl_trans hB4 b67
      obtain ⟨hull, hglb, hgll, _, _, hOl⟩ := owns_parts hol
      have hs7 := hb7.size
      have hur : ∀ y ∈ underL ps qs x, 0 ≤ y ∧ y < (ps.length : Int) := fun y hy => under_range hy
      have hul24 : (underL ps qs x).length ≤ 2097152 := by
        have h1 := tokL_len hl
        unfold underL
        split
        · have := under_len ps x.toNat (ps.length - x.toNat); omega
        · simp
      have hcd := cancel_done hl hi
      obtain ⟨l1, l2⟩ := tokL_len hl
      have hz5 := V2.out.lt
      have hnee := tr7.ne
      generalize hu : underL ps qs x = u at *
      have HU7 := hidOf hol
      have HT7 := hidOf tr7
      have HV1 := hidOf v1
      have HV2 := hidOf v2
      have HO7 := hidOf o7
      have Hcd := hidOf hcd
      have hrowl := hOl.ints
      clear HU o6 b6 hb7 b67 o7 tr7 v1 v2 V0 V1 V2 TR4 hcd hol HIn r0 r1 hW6 hOl tf uf
      go_wp2
      go_loopw [8, 10] (fun v i wr => ∃ k gt mt ct : Nat, k ≤ ml ∧ i = .int .i64 (k : Int) ∧ v = .slice (some ⟨gt, 0, none⟩) mt ct ∧ (gt = w5.heap.size ∨ w7.heap.size ≤ gt) ∧ Owns w5.heap.size wr gt mt ct (cancelTo qs u k).2 ∧ OwnsB (w.heap.size + 2) wr g' n' cp' (cancelTo qs u k).1 ∧ Kept2 g' w5.heap.size w7 wr) (fun _ i _ => ml - (intOf i).toNat)
      case atStart => exact ⟨0, w5.heap.size, 0, 0, Nat.zero_le _, rfl, rfl, .inl rfl, HO7.out, HT7.out.two, Kept2.refl _ _ _⟩
      case round =>
        rename_i wr
        obtain ⟨k, gt, mt, ct, hk, rfl, rfl, hgt, hot, hob, hk2⟩ := hrel
        by_cases hkm : k < ml
        · have hyr := hur (u.getD k 0) (by
            have hk' : k < u.length := by omega
            have e : u.getD k 0 = u[k] := by simp [List.getD, List.getElem?_eq_getElem hk']
            rw [e]; exact List.getElem_mem _)
          have hst := cancelTo_step (qs := qs) (u := u) (k := k) (by omega) rfl
          have hcl : wr.cell? ⟨gl, k, none⟩ = some (.int .i64 (u.getD k 0)) := by
            rcases (owns_parts (owns_kept2 HU7.out hk2 (by omega) (by omega))).2.2.2.2.2.ints.row with h0 | ⟨b, off, e, _, hc⟩
            · omega
            · cases e
              have := hc k hkm
              rwa [Nat.zero_add] at this
          generalize u.getD k 0 = y at hyr hst hcl
          obtain ⟨j, rfl⟩ := Int.eq_ofNat_of_zero_le hyr.1
          have hjn : j < n' := by omega
          obtain ⟨hcb, hfb⟩ := ownsB_cell hob hjn
          obtain ⟨_, m0, m1, _⟩ := HV2.out.kept2 hk2 (by omega) (by omega)
          have i1 : (k : Int) < (ml : Int) := by omega
          have i2 : (j : Int) < (n' : Int) := by omega
          have hln := cancelTo_len qs u k
          have hmt := (owns_parts hot).1
          generalize hb : (cancelTo qs u k).1.getD j false = b at hcb
          have HB := hidOf hb
          have Hot := hidOf hot
          have Hob := hidOf hob
          have Hst := hidOf hst
          clear hb hot hob hst
          cases b
          · go_wp2_with fail
            go_quiet (fail)
            go_wp2_with fail
            have bq : Below wr.heap.size wr (wr.drewN (nq + 1)) := bl_drewN (Below.refl _ _) _
            have hsq := hk2.size
            have gU := grown_set (wr.drewN (nq + 1)) g' j (.bool true)
            generalize hUU : ((wr.drewN (nq + 1)).setCell ⟨g', j, none⟩ (.bool true)) = U at gU
            have hotU : Owns w5.heap.size U gt mt ct (cancelTo qs u k).2 := World.ownsRow.kept (owns_keep Hot.out bq) gU (.inr (by simp [Value.ownBlock]; omega))
            have hobU : OwnsB (w.heap.size + 2) U g' n' cp' ((cancelTo qs u k).1.set j true) := by subst hUU; exact ownsB_set (ownsB_keep Hob.out bq) j true
            have hkU := (hk2.keep bq).grown gU (.inl rfl)
            have hclU : U.cell? ⟨gl, k, none⟩ = some (.int .i64 (j : Int)) := by
              rw [← hcl]
              exact (World.cell?_of_block (gU.block gl (by show gl < wr.heap.size; omega) (by simp; omega)))
            have hsU : wr.heap.size ≤ U.heap.size := gU.size
            obtain ⟨gn, cn, w9, hr9, ho9, hg9, hat9⟩ := append_own1 w5.heap.size mt _ (cancelTo qs u k).2 (j : Int) U hotU (by omega) (by omega)
            have hg9' : U.grownBy w9 (some gt) := hg9
            have hgn : gn = w5.heap.size ∨ w7.heap.size ≤ gn := by
              rcases hat9 with h | h
              · have : gt = gn := by simpa [Value.ownBlock] using h
                omega
              · omega
            have hob9 : OwnsB (w.heap.size + 2) w9 g' n' cp' ((cancelTo qs u k).1.set j true) := World.ownsRow.kept hobU hg9' (.inr (by simp [Value.ownBlock]; omega))
            have hk9 := hkU.grown hg9' (by omega)
            have hcn := cancel_no (s := cancelTo qs u k) (i := (j : Int)) HB.out
            have Ho9 := hidOf ho9
            have Hob9 := hidOf hob9
            have Hr9 := hidOf hr9
            have Hk9 := hidOf hk9
            have Hcn := hidOf hcn
            clear ho9 hob9 hr9 hk9 hcn hg9 hg9' hat9 hotU hobU hkU gU bq hsU hsq
            go_region_with (fail)
            all_goals go_wp2_with (first | (at_builtin; refine wpList_append_run rfl _ _ 24 rfl _ _ _ rfl rfl Hr9.out ?_) | fail)
            all_goals go_roundw
            all_goals first
              | exact ⟨k + 1, gn, mt + 1, cn, by omega, by go_num, rfl, hgn, by rw [Hst.out, Hcn.out]; exact Ho9.out, by rw [Hst.out, Hcn.out]; exact Hob9.out, Hk9.out⟩
              | (simp [intOf]; omega)
          · go_wp2_with fail
            go_quiet (fail)
            go_wp2
            go_roundw
            case rel => exact ⟨k + 1, gt, mt, ct, by omega, by go_num, rfl, hgt, by rw [Hst.out, cancel_yes HB.out]; exact owns_keep Hot.out (bl_drewN (Below.refl _ _) _), by rw [Hst.out, cancel_yes HB.out]; exact ownsB_keep Hob.out (bl_drewN (Below.refl _ _) _), hk2.keep (bl_drewN (Below.refl _ _) _)⟩
            case measure => simp [intOf]; omega
        · obtain rfl : k = ml := by omega
          have hki : ¬ (k : Int) < (k : Int) := by omega
          have v1 := HV1.out.kept2 hk2 (by omega) (by omega)
          have v2 := HV2.out.kept2 hk2 (by omega) (by omega)
          have oa := owns_kept2 HT7.out.one hk2 hnee (by omega)
          have hTR : TokRows (w.heap.size + 2) wr g n cp ps g' n' cp' (cancelTo qs u k).1 := ⟨oa, hob, hnee⟩
          have hF := ((hTR.far (w.heap.size + 1) 0 (by omega) (.slice (some ⟨g, 0, none⟩) n cp)).far (w.heap.size + 1) 1 (by omega) (.slice (some ⟨g', 0, none⟩) n' cp')).mono (B' := w.heap.size) (by omega)
          have hG := (((owns_parts hot).2.2.2.2.2.far (w.heap.size + 1) 0 (by omega) (.slice (some ⟨g, 0, none⟩) n cp)).far (w.heap.size + 1) 1 (by omega) (.slice (some ⟨g', 0, none⟩) n' cp')).mono (B' := w.heap.size) (by omega)
          have hBw : Below w.heap.size w wr := hB7.trans (hk2.below (by omega) (by omega) (by omega))
          have hBF := (hBw.setCell (p := ⟨w.heap.size + 1, 0, none⟩) (by simp) (.slice (some ⟨g, 0, none⟩) n cp)).setCell (p := ⟨w.heap.size + 1, 1, none⟩) (by simp) (.slice (some ⟨g', 0, none⟩) n' cp')
          have hap : mt = 0 ∨ ∀ b off, (some ⟨gt, 0, none⟩ : Option Addr) = some ⟨b, off, none⟩ → b ≠ g ∧ b ≠ g' := .inr fun b off e => by cases e; omega
          obtain ⟨_, m0, m1, _⟩ := id v2
          obtain ⟨_, q0, q1, qf⟩ := id v1
          have qf0 := qf 0
          have qf1 := qf 1
          have HF := hidOf hF
          have HG := hidOf hG
          have HBF := hidOf hBF
          have HAP := hidOf hap
          clear hF hG hBF hap hTR oa v1 v2 hot hob hk2 qf hrowl
          go_wp2
          refine bodyPost_ret (v := .tuple #[.agg #[.slice (some ⟨g, 0, none⟩) n cp, .slice (some ⟨g', 0, none⟩) n' cp'], .slice (some ⟨gt, 0, none⟩) mt ct, .int .i64 0]) (by simp [results, Try.results12, go_sem, q0, q1]) rfl ?_
          rw [Hcd.out, hull]
          exact ⟨_, _, _, _, _, _, ⟨_, rfl⟩, HF.out, HG.out, HAP.out, HBF.out⟩
end Go.Proofs.Ytgklnpkeffobnaa
