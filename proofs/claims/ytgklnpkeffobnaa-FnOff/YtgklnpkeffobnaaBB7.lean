/-
  Walks of the specification's tokens: a new one.
-/
import Derived.Test.YtgklnpkeffobnaaBB6
import Derived.Deep.RegionLaw
namespace Go.Proofs.Ytgklnpkeffobnaa
open Go.RowKit Pl Il

/-- Is x a parent that there may be? -/
def parIs (ps : List Int) (x : Int) : Bool := decide (-1 ≤ x) && decide (x ≤ (ps.length : Int) - 1)
/-- Is a token born beneath x off? -/
def bornL (qs : List Bool) (x : Int) : Bool := decide (0 ≤ x) && qs.getD x.toNat false
/-- What NewToken answers: the two lists, the number, the code. -/
def newL (ps : List Int) (qs : List Bool) (x : Int) : List Int × List Bool × Int × Int :=
  if !tokL ps qs || !parIs ps x then (ps, qs, -1, 1) else if 24 ≤ ps.length then (ps, qs, -1, 2) else (ps ++ [x], qs ++ [bornL qs x], (ps.length : Int), 0)
theorem new_bad {ps : List Int} {qs : List Bool} {x : Int} (h : tokL ps qs = false ∨ parIs ps x = false) : newL ps qs x = (ps, qs, -1, 1) := by rcases h with h | h <;> simp [newL, h]
theorem new_full {ps : List Int} {qs : List Bool} {x : Int} (h1 : tokL ps qs = true) (h2 : parIs ps x = true) (h3 : 24 ≤ ps.length) : newL ps qs x = (ps, qs, -1, 2) := by simp [newL, h1, h2, h3]
theorem new_done {ps : List Int} {qs : List Bool} {x : Int} (h1 : tokL ps qs = true) (h2 : parIs ps x = true) (h3 : ¬ 24 ≤ ps.length) : newL ps qs x = (ps ++ [x], qs ++ [bornL qs x], (ps.length : Int), 0) := by
  unfold newL; rw [h1, h2, if_neg (by simp), if_neg h3]

/-- At a step of a region that draws: an append whose run is known. -/
theorem step_append_run {P : Program} {ops : Array Oper} {o : Oper} {a : Act} {w w' : World} {K : Act → World → Prop} {Q : Exit → Act → World → Prop} {E : Prop} (hgd : o.guard = none) (s x : Operand) (t : TypeId)
    (ho : o.op = .call { callee := .builtin .append, args := #[s, x], argTypes := #[t, t] }) (v u v' : Value) (hs : a.eval s = v) (hx : a.eval x = u)
    (hr : (Builtin.append_ #[t, t] o.type #[v, u]).run P w = .ok v' w') (h : K (a.put o.dst v') w') :
    if Region.wanted o (yielded ops a.tmps) = true then Oper.wp P o a w K Q else E :=
  step_append_ex (R := fun v1 w1 => v1 = v' ∧ w1 = w') hgd s x t ho v u hs hx ⟨v', w', hr, rfl, rfl⟩ (fun _ _ h1 => by obtain ⟨rfl, rfl⟩ := h1; exact h)
theorem Box2.grown {N : Nat} {v0 v1 : Value} {w u : World} {g : Nat} (h : Box2 N v0 v1 w) (hg : w.grownBy u (some g)) (hN : N ≠ g) : Box2 N v0 v1 u := by
  have key : u.heap[N]? = w.heap[N]? := hg.block N h.lt (by simpa using hN)
  exact ⟨Nat.lt_of_lt_of_le h.lt hg.size, by rw [← h.c0]; exact World.cell?_of_block key, by rw [← h.c1]; exact World.cell?_of_block key, fun k => by rw [← h.fr k]; exact World.frozen?_of_block key⟩

set_option maxHeartbeats 4000000 in
set_option maxRecDepth 100000 in
theorem specNewToken_any (a : Option Addr) (n c : Nat) (ps : List Int) (a' : Option Addr) (n' c' : Nat) (qs : List Bool) (x : Int) (w : World) (hT : TokIn w a n ps a' n' qs) (hn : n ≤ 2097152) (hn' : n' ≤ 2097152) :
    Calls Try.prog 25 #[.agg #[.slice a n c, .slice a' n' c'], .int .i64 x] w fun e w' => ∃ g m cp g' m' cp', e = .returned (.tuple #[.agg #[.slice (some ⟨g, 0, none⟩) m cp, .slice (some ⟨g', 0, none⟩) m' cp'], .int .i64 (newL ps qs x).2.2.1, .int .i64 (newL ps qs x).2.2.2]) ∧
      TokRows w.heap.size w' g m cp (newL ps qs x).1 g' m' cp' (newL ps qs x).2.1 ∧ Below w.heap.size w w' := by
  generalize hW0 : w.alloc (.cells #[.slice a n c, .slice a' n' c'] 27) = W0
  generalize hW1 : W0.alloc (.cells #[.slice none 0 0, .slice none 0 0] 27) = W1
  have B0 : Below w.heap.size w W0 := by subst hW0; exact bl_alloc (Below.refl _ _) _
  have B1 : Below w.heap.size w W1 := by subst hW1; exact bl_alloc B0 _
  have s0 : W0.heap.size = w.heap.size + 1 := by subst hW0; simp
  have s1 : W1.heap.size = w.heap.size + 2 := by subst hW1; simp [s0]
  have x0 : Box2 w.heap.size (.slice a n c) (.slice a' n' c') W1 := by subst hW1 hW0; exact (Box2.new w _ _ _).alloc _
  have x1 : Box2 (w.heap.size + 1) (.slice none 0 0) (.slice none 0 0) W1 := by subst hW1; rw [← s0]; exact Box2.new W0 _ _ _
  have hlp := hT.ints.len
  have hlq := hT.bools.len
  have HT := hidOf hT
  obtain ⟨_, p0, p1, _⟩ := id x0
  have X0 := hidOf x0
  have X1 := hidOf x1
  clear hT x0 x1 B0
  go_enter Try.func25, Try.ntmps25
  go_wp2_with fail
  refine (l3Copy_any a n c ps a' n' c' qs _ (HT.out.keep B1) hn hn').mono ?_
  rintro e w2 ⟨g, cp, g', cp', rfl, hTR, hb2⟩
  rw [s1] at hTR
  have y0 := X0.out.keep hb2
  have y1 := X1.out.keep hb2
  have hB2 := bl_trans B1 hb2
  have hgl := (owns_parts hTR.one).2.2.1
  have hgl' := (ownsB_parts hTR.two).2.2.1
  have hgb := (owns_parts hTR.one).2.1
  have hgb' := (ownsB_parts hTR.two).2.1
  have hz2 := y1.lt
  generalize hW3 : w2.alloc (.cells #[.slice (some ⟨g, 0, none⟩) n cp, .slice (some ⟨g', 0, none⟩) n' cp'] 27) = W3
  have b3 : Below w2.heap.size w2 W3 := by subst hW3; exact bl_alloc (Below.refl _ _) _
  have y2 : Box2 w2.heap.size (.slice (some ⟨g, 0, none⟩) n cp) (.slice (some ⟨g', 0, none⟩) n' cp') W3 := by subst hW3; exact Box2.new w2 _ _ _
  have z0 := y0.keep b3
  have z1 := y1.keep b3
  have tr3 := hTR.keep b3
  have hB3 := bl_trans hB2 b3
  obtain ⟨_, r0, r1, _⟩ := id z0
  have Z0 := hidOf z0
  have Z1 := hidOf z1
  have Y2 := hidOf y2
  have TR := hidOf tr3
  clear hTR b3 y0 y1 y2 z0 z1 X0 X1 p0 p1 hb2 hB2 B1 hW0 hW1 tr3
  go_wp2_with fail
  refine (specTokensOk_any a n c ps a' n' c' qs _ (HT.out.keep hB3) hn hn').mono ?_
  rintro e w4 ⟨rfl, hb4⟩
  have v0 := Z0.out.keep hb4
  have v1 := Z1.out.keep hb4
  have v2 := Y2.out.keep hb4
  have tr := TR.out.keep hb4
  have hB4 := bl_trans hB3 hb4
  obtain ⟨_, r0, r1, _⟩ := id v0
  obtain ⟨_, t0, t1, tf⟩ := id v1
  obtain ⟨_, u0, u1, uf⟩ := id v2
  have tf0 := tf 0
  have tf1 := tf 1
  have uf0 := uf 0
  have uf1 := uf 1
  have V0 := hidOf v0
  have V1 := hidOf v1
  have V2 := hidOf v2
  have TR4 := hidOf tr
  have hM1 : ¬ w2.heap.size = w.heap.size + 1 := by omega
  have hM0 : ¬ w2.heap.size = w.heap.size := by omega
  have hM1' : ¬ w.heap.size + 1 = w2.heap.size := by omega
  have hM0' : ¬ w.heap.size = w2.heap.size := by omega
  clear v0 v1 v2 tr Z0 Z1 Y2 TR hb4 hB3 hW3
  cases hl : tokL ps qs
  · have hF := ((TR4.out.far (w.heap.size + 1) 0 (by omega) (.slice (some ⟨g, 0, none⟩) n cp)).far (w.heap.size + 1) 1 (by omega) (.slice (some ⟨g', 0, none⟩) n' cp')).mono (B' := w.heap.size) (by omega)
    have hBF := (hB4.setCell (p := ⟨w.heap.size + 1, 0, none⟩) (by simp) (.slice (some ⟨g, 0, none⟩) n cp)).setCell (p := ⟨w.heap.size + 1, 1, none⟩) (by simp) (.slice (some ⟨g', 0, none⟩) n' cp')
    have HF := hidOf hF
    clear hF
    go_wp2
    refine bodyPost_ret (v := .tuple #[.agg #[.slice (some ⟨g, 0, none⟩) n cp, .slice (some ⟨g', 0, none⟩) n' cp'], .int .i64 (-1), .int .i64 1]) (by simp [results, Try.results25, go_sem, t0, t1]) rfl ?_
    rw [new_bad (.inl hl)]
    exact ⟨_, _, _, _, _, _, rfl, HF.out, hBF⟩
  · have hin := in_any x (-1) ((n : Int) - 1) w4
    have e1 : (decide (-1 ≤ x) && decide (x ≤ (n : Int) - 1)) = parIs ps x := by rw [parIs, hlp]
    rw [e1] at hin
    have HIn := hidOf hin
    clear hin e1
    go_wp2_with fail
    refine HIn.out.mono ?_
    rintro e w5 ⟨rfl, rfl⟩
    cases hi : parIs ps x
    · have hF := ((TR4.out.far (w.heap.size + 1) 0 (by omega) (.slice (some ⟨g, 0, none⟩) n cp)).far (w.heap.size + 1) 1 (by omega) (.slice (some ⟨g', 0, none⟩) n' cp')).mono (B' := w.heap.size) (by omega)
      have hBF := (hB4.setCell (p := ⟨w.heap.size + 1, 0, none⟩) (by simp) (.slice (some ⟨g, 0, none⟩) n cp)).setCell (p := ⟨w.heap.size + 1, 1, none⟩) (by simp) (.slice (some ⟨g', 0, none⟩) n' cp')
      have HF := hidOf hF
      clear hF
      go_wp2
      refine bodyPost_ret (v := .tuple #[.agg #[.slice (some ⟨g, 0, none⟩) n cp, .slice (some ⟨g', 0, none⟩) n' cp'], .int .i64 (-1), .int .i64 1]) (by simp [results, Try.results25, go_sem, t0, t1]) rfl ?_
      rw [new_bad (.inr hi)]
      exact ⟨_, _, _, _, _, _, rfl, HF.out, hBF⟩
    · by_cases h24 : 24 ≤ n
      · have h24' : (24 : Int) ≤ (n : Int) := by omega
        have hF := ((TR4.out.far (w.heap.size + 1) 0 (by omega) (.slice (some ⟨g, 0, none⟩) n cp)).far (w.heap.size + 1) 1 (by omega) (.slice (some ⟨g', 0, none⟩) n' cp')).mono (B' := w.heap.size) (by omega)
        have hBF := (hB4.setCell (p := ⟨w.heap.size + 1, 0, none⟩) (by simp) (.slice (some ⟨g, 0, none⟩) n cp)).setCell (p := ⟨w.heap.size + 1, 1, none⟩) (by simp) (.slice (some ⟨g', 0, none⟩) n' cp')
        have HF := hidOf hF
        clear hF
        go_wp2
        refine bodyPost_ret (v := .tuple #[.agg #[.slice (some ⟨g, 0, none⟩) n cp, .slice (some ⟨g', 0, none⟩) n' cp'], .int .i64 (-1), .int .i64 2]) (by simp [results, Try.results25, go_sem, t0, t1]) rfl ?_
        rw [new_full hl hi (by omega)]
        exact ⟨_, _, _, _, _, _, rfl, HF.out, hBF⟩
      · have h24' : ¬ (24 : Int) ≤ (n : Int) := by omega
        have hTR := TR4.out
        have hzz := V2.out.lt
        obtain ⟨g5, c5, w6, hr5, ho5, hg5, hat5⟩ := append_own1 (w.heap.size + 2) n _ ps x w5 hTR.one (by omega) (by omega)
        have hat5' : g5 = g ∨ w5.heap.size ≤ g5 := by
          rcases hat5 with h | h
          · left; simpa [Value.ownBlock] using h.symm
          · exact .inr h
        have hg5' : w5.grownBy w6 (some g) := hg5
        have a0 := V0.out.grown hg5' (by omega)
        have a1 := V1.out.grown hg5' (by omega)
        have a2 := V2.out.grown hg5' (by omega)
        have oB6 : OwnsB (w.heap.size + 2) w6 g' n' cp' qs := World.ownsRow.kept hTR.two hg5' (.inr (by have := hTR.ne; simp [Value.ownBlock]; omega))
        have hg5lt := (owns_parts ho5).2.2.1
        have hB6 : Below w.heap.size w w6 := hB4.grown hg5' hB4.size (fun j hj => by cases hj; omega)
        have hs56 := hg5'.size
        have hne := hTR.ne
        generalize hW7 : w6.setCell ⟨w2.heap.size, 0, none⟩ (.slice (some ⟨g5, 0, none⟩) (n + 1) c5) = W7
        have hg67 : w6.grownBy W7 (some w2.heap.size) := by subst hW7; exact ⟨rfl, rfl, rfl, by simp, fun k _ hk => Below.heap_setCell _ _ _ _ (by rintro rfl; exact hk rfl)⟩
        have b0 := a0.grown hg67 (by omega)
        have b1 := a1.grown hg67 (by omega)
        have b2 : Box2 w2.heap.size (.slice (some ⟨g5, 0, none⟩) (n + 1) c5) (.slice (some ⟨g', 0, none⟩) n' cp') W7 := by subst hW7; exact a2.set0 _
        have oA7 : Owns (w.heap.size + 2) W7 g5 (n + 1) c5 (ps ++ [x]) := World.ownsRow.kept ho5 hg67 (.inr (by simp [Value.ownBlock]; omega))
        have oB7 : OwnsB (w.heap.size + 2) W7 g' n' cp' qs := World.ownsRow.kept oB6 hg67 (.inr (by simp [Value.ownBlock]; omega))
        have hB7 : Below w.heap.size w W7 := hB6.grown hg67 hB6.size (fun j hj => by cases hj; omega)
        have hsz7 : W7.heap.size = w6.heap.size := by subst hW7; simp
        have hb7 := b1.lt
        obtain ⟨g8, c8, w9, hr8, ho8, hg8, hat8⟩ := append_ownB1 (w.heap.size + 2) n' _ qs (bornL qs x) W7.drew oB7 (by show _ ≤ W7.heap.size; omega) (by omega)
        have hat8' : g8 = g' ∨ W7.heap.size ≤ g8 := by
          rcases hat8 with h | h
          · left; simpa [Value.ownBlock] using h.symm
          · exact .inr h
        have hg8' : W7.drew.grownBy w9 (some g') := hg8
        have d0 := (b0.keep (Below.refl _ _).drew).grown hg8' (by omega)
        have d1 := (b1.keep (Below.refl _ _).drew).grown hg8' (by omega)
        have d2 := (b2.keep (Below.refl _ _).drew).grown hg8' (by omega)
        have oA9 : Owns (w.heap.size + 2) w9 g5 (n + 1) c5 (ps ++ [x]) := World.ownsRow.kept (owns_keep oA7 (Below.refl _ _).drew) hg8' (.inr (by simp [Value.ownBlock]; omega))
        have hB9 : Below w.heap.size w w9 := (Below.drew hB7).grown hg8' (Below.drew hB7).size (fun j hj => by cases hj; omega)
        have hg8lt := (ownsB_parts ho8).2.2.1
        have hs89 : W7.heap.size ≤ w9.heap.size := hg8'.size
        have hTR9 : TokRows (w.heap.size + 2) w9 g5 (n + 1) c5 (ps ++ [x]) g8 (n' + 1) c8 (qs ++ [bornL qs x]) := ⟨oA9, ho8, by omega⟩
        have hgM : w9.grownBy (w9.setCell ⟨w2.heap.size, 1, none⟩ (.slice (some ⟨g8, 0, none⟩) (n' + 1) c8)) (some w2.heap.size) := ⟨rfl, rfl, rfl, by simp, fun k _ hk => Below.heap_setCell _ _ _ _ (by rintro rfl; exact hk rfl)⟩
        have hTR10 : TokRows (w.heap.size + 2) (w9.setCell ⟨w2.heap.size, 1, none⟩ (.slice (some ⟨g8, 0, none⟩) (n' + 1) c8)) g5 (n + 1) c5 (ps ++ [x]) g8 (n' + 1) c8 (qs ++ [bornL qs x]) :=
          ⟨World.ownsRow.kept hTR9.one hgM (.inr (by simp [Value.ownBlock]; omega)), World.ownsRow.kept hTR9.two hgM (.inr (by simp [Value.ownBlock]; omega)), hTR9.ne⟩
        have hB10 := hB9.setCell (p := ⟨w2.heap.size, 1, none⟩) (by simp; omega) (.slice (some ⟨g8, 0, none⟩) (n' + 1) c8)
        have hF := ((hTR10.far (w.heap.size + 1) 0 (by omega) (.slice (some ⟨g5, 0, none⟩) (n + 1) c5)).far (w.heap.size + 1) 1 (by omega) (.slice (some ⟨g8, 0, none⟩) (n' + 1) c8)).mono (B' := w.heap.size) (by omega)
        have hBF := (hB10.setCell (p := ⟨w.heap.size + 1, 0, none⟩) (by simp) (.slice (some ⟨g5, 0, none⟩) (n + 1) c5)).setCell (p := ⟨w.heap.size + 1, 1, none⟩) (by simp) (.slice (some ⟨g8, 0, none⟩) (n' + 1) c8)
        obtain ⟨_, k0, k1, kf⟩ := id a2
        have kf0 := kf 0
        obtain ⟨_, l0, l1, _⟩ := id b0
        obtain ⟨_, m0, m1, mf⟩ := id b2
        obtain ⟨_, n0, n1, nf⟩ := id d2
        obtain ⟨_, o0, o1, of⟩ := id d1
        have nf1 := nf 1
        have of0 := of 0
        have of1 := of 1
        have HF := hidOf hF
        have HBF := hidOf hBF
        have Hr5 := hidOf hr5
        have hTq := (HT.out.bools.keep hB7)
        have hnd := new_done hl hi (by omega)
        clear hF hBF hB10 hTR10 hTR9 hgM oA9 oA7 oB7 oB6 hTR ho5 ho8 hg5 hg5' hg67 a0 a1 a2 b0 b1 b2 d0 d1 d2 hB6 hB7 hB9 hr5 hat5 hat8 hg8 hg8' V0 V1 V2 TR4 HIn kf mf nf of tf uf hsz7 hs56 hs89 hg8lt hg5lt hb7
        by_cases hx0 : 0 ≤ x
        · obtain ⟨k, rfl⟩ := Int.eq_ofNat_of_zero_le hx0
          have hpi : k < n := by simp [parIs] at hi; omega
          obtain ⟨l1', _⟩ := tokL_len hl
          have hki : (k : Int) < (n' : Int) := by omega
          rcases hTq.row with h | ⟨b, off, rfl, hb, hcell⟩
          · omega
          · have hc := hcell k (by omega)
            generalize hy : qs.getD k false = y at hc
            have hbn : bornL qs (k : Int) = y := by simp only [bornL, hx0, decide_true, Bool.true_and, Int.toNat_natCast]; exact hy
            rw [hbn] at hr8 HF hnd
            have Hr8 := hidOf hr8
            clear hcell hTq hy hbn hr8
            go_wp2_with (first | (at_builtin; refine wpList_append_run rfl _ _ 24 rfl _ _ _ rfl rfl Hr5.out ?_) | fail)
            go_region_law (refine step_append_run (by rfl) _ _ 25 (by rfl) (.slice (some ⟨g', 0, none⟩) n' cp') (.slice (some ⟨W7.heap.size, 0, none⟩) 1 1) _ (by rfl) (by rfl) Hr8.out ?_)
            all_goals go_wp2
            all_goals refine bodyPost_ret (v := .tuple #[.agg #[.slice (some ⟨g5, 0, none⟩) (n + 1) c5, .slice (some ⟨g8, 0, none⟩) (n' + 1) c8], .int .i64 (n : Int), .int .i64 0]) (by simp [results, Try.results25, go_sem, o0, o1]) rfl ?_
            all_goals rw [hnd, hlp]
            all_goals exact ⟨_, _, _, _, _, _, rfl, HF.out, HBF.out⟩
        · obtain rfl : x = -1 := by simp [parIs] at hi; omega
          have hbn : bornL qs (-1) = false := by simp [bornL]
          rw [hbn] at hr8 HF hnd
          have Hr8 := hidOf hr8
          clear hTq hbn hr8
          go_wp2_with (first | (at_builtin; refine wpList_append_run rfl _ _ 24 rfl _ _ _ rfl rfl Hr5.out ?_) | fail)
          first | (go_region_law (refine step_append_run (by rfl) _ _ 25 (by rfl) (.slice (some ⟨g', 0, none⟩) n' cp') (.slice (some ⟨W7.heap.size, 0, none⟩) 1 1) _ (by rfl) (by rfl) Hr8.out ?_)) | fail
          all_goals go_wp2
          all_goals refine bodyPost_ret (v := .tuple #[.agg #[.slice (some ⟨g5, 0, none⟩) (n + 1) c5, .slice (some ⟨g8, 0, none⟩) (n' + 1) c8], .int .i64 (n : Int), .int .i64 0]) (by simp [results, Try.results25, go_sem, o0, o1]) rfl ?_
          all_goals rw [hnd, hlp]
          all_goals exact ⟨_, _, _, _, _, _, rfl, HF.out, HBF.out⟩
end Go.Proofs.Ytgklnpkeffobnaa
