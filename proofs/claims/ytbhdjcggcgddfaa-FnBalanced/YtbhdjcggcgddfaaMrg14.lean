/-
  Walks of the specification's notifications: a copy, a telling of one.
  Two lists of numbers, each a row of its own, apart from one another: what appends and stores leave of them.
-/
import Derived.Test.YtbhdjcggcgddfaaSN1
import Derived.Test.YtbhdjcggcgddfaaV7
import Derived.Test.YtbhdjcggcgddfaaMrg3
import Derived.Test.YtbhdjcggcgddfaaMrg10
namespace Go.Proofs.Ytbhdjcggcgddfaa
open Go.RowKit Pl Il

theorem ownsG_empty (w : World) : (w.alloc (.cells #[] 44)).ownsRow w.heap.size 44 2 (.slice (some ⟨w.heap.size, 0, none⟩) 0 0) 0 (gflat []) :=
  ⟨rfl, .inr ⟨w.heap.size, 0, #[], rfl, Nat.le_refl _, heap_alloc_new w _, Nat.le_refl _, Nat.zero_le _, rfl, rfl⟩⟩
set_option maxHeartbeats 2000000 in
theorem l5Copy_any (A : Na) (x : Nt) (w : World) (hI : NIn w A x) (hn : A.n ≤ 2097152) (hn' : A.n' ≤ 2097152) :
    Calls Try.prog 89 #[.agg #[.bool x.pm, .slice A.a A.n A.c, .slice A.a' A.n' A.c', .int .i64 x.on, .int .i64 x.sp, .int .i64 x.tk]] w fun e w' => ∃ a c a' c', e = .returned (.agg #[.bool x.pm, .slice a A.n c, .slice a' A.n' c', .int .i64 x.on, .int .i64 x.sp, .int .i64 x.tk]) ∧ NRow w.heap.size w' ⟨a, A.n, c, a', A.n', c'⟩ x ∧ Below w.heap.size w w' := by
  generalize hW0 : w.alloc (.cells #[.bool x.pm, .slice A.a A.n A.c, .slice A.a' A.n' A.c', .int .i64 x.on, .int .i64 x.sp, .int .i64 x.tk] 27) = W0
  generalize hW1 : W0.alloc (.cells #[.bool false, .slice none 0 0, .slice none 0 0, .int .i64 0, .int .i64 0, .int .i64 0] 27) = W1
  have b0 : Below w.heap.size w W0 := by subst hW0; exact bl_alloc (Below.refl _ _) _
  have b1 : Below w.heap.size w W1 := by subst hW1; exact bl_alloc b0 _
  have s0 : W0.heap.size = w.heap.size + 1 := by subst hW0; simp
  have s1 : W1.heap.size = w.heap.size + 2 := by subst hW1; simp [s0]
  have x0 : NBox w.heap.size A x W1 := by subst hW1 hW0; exact (NBox.new w A x _).alloc _
  have x1 : NBox (w.heap.size + 1) Na.zero Nt.zero W1 := by subst hW1; rw [← s0]; exact NBox.newZ W0 _
  have hI1 := hidOf (hI.keep b1)
  have HI := hidOf hI
  have X0 := hidOf x0
  have X1 := hidOf x1
  have HB := hidOf b1
  have S1 := hidOf s1
  clear hI x0 x1 b0 b1 s0 s1
  subst hW1 hW0
  go_enter Try.func89, Try.ntmps89
  go_wp2_with fail
  refine (l2Copy_any A.a A.n A.c x.ln _ hI1.out.ints hn).mono ?_
  rintro e w1 ⟨g1, c1, rfl, ho1, hb1⟩
  rw [S1.out] at ho1
  have x0 := X0.out.keep hb1
  have x1 := X1.out.keep hb1
  have hB1 := bl_trans HB.out hb1
  have y0 := x0.set1 (a := some ⟨g1, 0, none⟩) (n := A.n) (c := c1)
  have y1 := x1.far w.heap.size 1 (by omega) (.slice (some ⟨g1, 0, none⟩) A.n c1)
  have ho2 := own_far1 ho1 w.heap.size 1 (by omega) (.slice (some ⟨g1, 0, none⟩) A.n c1)
  have hB2 := bl_set1' hB1 w.heap.size 1 (Nat.le_refl _) (.slice (some ⟨g1, 0, none⟩) A.n c1)
  generalize hU : w1.setCell ⟨w.heap.size, 1, none⟩ (.slice (some ⟨g1, 0, none⟩) A.n c1) = U at y0 y1 ho2 hB2
  have hz := y1.lt
  have bE : Below U.heap.size U (U.alloc (.cells #[] 44)) := bl_alloc (Below.refl _ _) _
  obtain ⟨v, w2, hr, ho3, hg⟩ := append_grs U.heap.size _ 0 [] A.a' A.n' A.c' x.gs _ (ownsG_empty U) (by simp) ((HI.out.grs.keep hB2).keep bE) (by omega)
  rw [Nat.zero_add, List.nil_append] at ho3
  obtain ⟨a2, c2, rfl, _, _⟩ := ownG_of ho3 x.gs rfl
  have hb3 : Below U.heap.size U w2 := bE.grown hg (by simp) (fun k hk => by simp [Value.ownBlock] at hk; omega)
  have z0 := y0.keep hb3
  have z1 := y1.keep hb3
  have hN : NRow (w.heap.size + 2) w2 ⟨some ⟨g1, 0, none⟩, A.n, c1, a2, A.n', c2⟩ x := ⟨ownsRow_keep ho2 hb3, own_mono1 ho3 (by omega)⟩
  have hN2 := (hN.far w.heap.size 2 (by omega) (.slice a2 A.n' c2)).far6 (w.heap.size + 1) (by omega) (.bool x.pm) (.slice (some ⟨g1, 0, none⟩) A.n c1) (.slice a2 A.n' c2) (.int .i64 x.on) (.int .i64 x.sp) (.int .i64 x.tk)
  have hB3 := bl_set6' (bl_set1' (bl_trans hB2 hb3) w.heap.size 2 (Nat.le_refl _) (.slice a2 A.n' c2)) (w.heap.size + 1) (by omega) (.bool x.pm) (.slice (some ⟨g1, 0, none⟩) A.n c1) (.slice a2 A.n' c2) (.int .i64 x.on) (.int .i64 x.sp) (.int .i64 x.tk)
  obtain ⟨_, p0, p1, p2, p3, p4, p5, pf⟩ := id x0
  obtain ⟨_, q0, q1, q2, q3, q4, q5, qf⟩ := id y0
  obtain ⟨_, r0, r1, r2, r3, r4, r5, rf⟩ := id z0
  obtain ⟨_, t0, t1, t2, t3, t4, t5, tf⟩ := id z1
  have dq : ∀ o, (U.alloc o).cell? ⟨w.heap.size, 2, none⟩ = some (.slice A.a' A.n' A.c') := fun o => by rw [World.cell?_alloc_old _ _ _ (Nat.ne_of_lt (World.block_lt_of_cell? U _ q2))]; exact q2
  have HN := hidOf hN2
  have HB3 := hidOf hB3
  have Hr := hidOf hr
  clear hN hN2 hB3 ho3 hb3 z0 z1 y0 y1 ho1 ho2 hB1 hB2 hb1 x0 x1 hr hg bE hz S1 HI X0 X1 HB hI1
  go_wp2_with (at_builtin; refine wpList_append_run rfl _ _ 25 rfl _ _ _ rfl rfl Hr.out ?_)
  exact bodyPost_ret (v := .agg #[.bool x.pm, .slice (some ⟨g1, 0, none⟩) A.n c1, .slice a2 A.n' c2, .int .i64 x.on, .int .i64 x.sp, .int .i64 x.tk]) (by simp [results, Try.results89, go_sem, t0, t1, t2, t3, t4, t5]) rfl ⟨_, _, _, _, rfl, HN.out.mono (by omega), HB3.out⟩
end Go.Proofs.Ytbhdjcggcgddfaa
namespace Go.Proofs.Ytbhdjcggcgddfaa
open Go.RowKit Go.Maps Pl Il

abbrev intsV (xs : List Int) : List Value := xs.map (Value.int .i64)
/-- The two lists. -/
structure Rows2 (B : Nat) (w : World) (A : Na) (ln gs : List Int) : Prop where
  one : w.ownsRow B 3 1 (.slice A.a A.n A.c) A.n (intsV ln)
  two : w.ownsRow B 3 1 (.slice A.a' A.n' A.c') A.n' (intsV gs)
  ne : ∀ q, (Value.slice A.a A.n A.c).ownBlock = some q → (Value.slice A.a' A.n' A.c').ownBlock ≠ some q
section
variable {B B' : Nat} {w w' : World} {A : Na} {ln gs : List Int}
theorem row_set {v : Value} {n : Nat} {xs : List Value} (h : w.ownsRow B 3 1 v n xs) (N o : Nat) (hne : v.ownBlock ≠ some N) (x : Value) : (w.setCell ⟨N, o, none⟩ x).ownsRow B 3 1 v n xs := by
  refine h.kept (row := some N) ⟨rfl, rfl, rfl, by simp, fun k _ hk => Below.heap_setCell _ _ _ _ (by rintro rfl; exact hk rfl)⟩ ?_
  cases e : v.ownBlock with
  | none => exact .inl rfl
  | some q => exact .inr (fun e' => hne (by rw [e, e']))
theorem row_grown {v : Value} {n : Nat} {xs : List Value} (h : w.ownsRow B 3 1 v n xs) {g : Option Nat} (hg : w.grownBy w' g) (hne : ∀ q, g = some q → v.ownBlock ≠ some q) : w'.ownsRow B 3 1 v n xs := by
  refine h.kept (row := g) hg ?_
  cases e : v.ownBlock with
  | none => exact .inl rfl
  | some q => exact .inr (fun e' => hne q e'.symm e)
theorem row_mono {v : Value} {n : Nat} {xs : List Value} (h : w.ownsRow B 3 1 v n xs) (hb : B' ≤ B) : w.ownsRow B' 3 1 v n xs :=
  ⟨h.1, h.2.imp id fun ⟨g, cap, cur, h1, h2, h3⟩ => ⟨g, cap, cur, h1, Nat.le_trans hb h2, h3⟩⟩
theorem row_below {v : Value} {n : Nat} {xs : List Value} (h : w.ownsRow B 3 1 v n xs) (hb : Below w.heap.size w w') : w'.ownsRow B 3 1 v n xs := ownsRow_keep h hb
theorem row_own {a : Option Addr} {n c : Nat} {xs : List Int} (h : w.ownsRow B 3 1 (.slice a n c) n (intsV xs)) : Il.OwnAt B w a n xs ∧ n ≤ c := by
  have hcp := own_cap h
  obtain ⟨a', c', e, ho⟩ := own_of h xs rfl
  injection e with e1 _ _
  subst e1
  exact ⟨ho, hcp⟩
theorem Rows2.keep (h : Rows2 B w A ln gs) (hb : Below w.heap.size w w') : Rows2 B w' A ln gs := ⟨row_below h.one hb, row_below h.two hb, h.ne⟩
theorem Rows2.mono (h : Rows2 B w A ln gs) (hB : B' ≤ B) : Rows2 B' w A ln gs := ⟨row_mono h.one hB, row_mono h.two hB, h.ne⟩
theorem Rows2.set (h : Rows2 B w A ln gs) (N o : Nat) (h1 : (Value.slice A.a A.n A.c).ownBlock ≠ some N) (h2 : (Value.slice A.a' A.n' A.c').ownBlock ≠ some N) (x : Value) : Rows2 B (w.setCell ⟨N, o, none⟩ x) A ln gs := ⟨row_set h.one N o h1 x, row_set h.two N o h2 x, h.ne⟩
theorem Rows2.far (h : Rows2 B w A ln gs) (N o : Nat) (hN : N < B) (x : Value) : Rows2 B (w.setCell ⟨N, o, none⟩ x) A ln gs :=
  h.set N o (fun e => by have := (h.one.lt N e).1; omega) (fun e => by have := (h.two.lt N e).1; omega) x
theorem Rows2.ok (h : Rows2 B w A ln gs) : A.ok := ⟨(row_own h.one).2, (row_own h.two).2⟩
theorem Rows2.len (h : Rows2 B w A ln gs) : ln.length = A.n ∧ gs.length = A.n' := ⟨(row_own h.one).1.ints.len, (row_own h.two).1.ints.len⟩
theorem own_block {v : Value} {b off : Nat} {n c : Nat} (h : v = .slice (some ⟨b, off, none⟩) n c) : v.ownBlock = some b := by rw [h]; rfl
theorem Rows2.parts (h : Rows2 B w A ln gs) : Il.OwnAt B w A.a A.n ln ∧ Il.OwnAt B w A.a' A.n' gs ∧ (A.n = 0 ∨ A.n' = 0 ∨ ∀ b off b' off', A.a = some ⟨b, off, none⟩ → A.a' = some ⟨b', off', none⟩ → b ≠ b') := by
  refine ⟨(row_own h.one).1, (row_own h.two).1, .inr (.inr fun b off b' off' e e' hbb => ?_)⟩
  subst hbb
  exact h.ne b (by rw [e]; rfl) (by rw [e']; rfl)
end
/-- More numbers behind an own row. -/
theorem append_ownS (B m : Nat) (v : Value) (ys : List Int) (a : Option Addr) (n cap : Nat) (xs : List Int) (w : World) (ho : w.ownsRow B 3 1 v m (intsV ys)) (hB : B ≤ w.heap.size) (hI : IntsAt w a n xs) (hs : m + n ≤ 4194304) :
    ∃ (a' : Option Addr) (c' : Nat) (w' : World), (Builtin.append_ #[24, 24] 24 #[v, .slice a n cap]).run Try.prog w = .ok (.slice a' (m + n) c') w' ∧ w'.ownsRow B 3 1 (.slice a' (m + n) c') (m + n) (intsV (ys ++ xs)) ∧ w.grownBy w' v.ownBlock ∧
      (∀ q, (Value.slice a' (m + n) c').ownBlock = some q → v.ownBlock = some q ∨ w.heap.size ≤ q) := by
  obtain ⟨i, hi, hz0, hz1, hz2⟩ := info_parts info3
  obtain ⟨av, cv, hv, _⟩ := own_of ho ys rfl
  subst hv
  have hcp := own_cap ho
  obtain ⟨hlen, h0⟩ := hI
  rcases Nat.eq_zero_or_pos n with rfl | hpos
  · have hx : xs = [] := List.length_eq_zero_iff.1 hlen
    subst hx
    refine ⟨av, cv, w, run_append_nothing w 24 24 24 3 i Try.underlying24 hi av m cv hcp _ ?_, by rw [List.append_nil]; exact ho, ⟨rfl, rfl, rfl, Nat.le_refl _, fun _ _ _ => rfl⟩, fun q e => .inl e⟩
    rcases a with _ | ad
    · exact Src.ofNil _ Try.underlying24 cap
    · exact Src.ofSlice _ Try.underlying24 ad 0 cap [] (by simp) (fun j u h => by simp at h) (fun u h => by cases h)
  · rcases h0 with h0 | ⟨b, off, rfl, hb, hcell⟩
    · omega
    · obtain ⟨g', c', w', hr, hown, hgrow, hl, _⟩ := run_append_lies (P := Try.prog) w 24 24 B 3 i (.int .i64 0) 1 8 Try.underlying24 hi hz0 hz1 hz2 rfl (by omega) _ m _ ho ⟨b, off, none⟩ n cap (xs.map (Value.int .i64)) (by simp [hlen])
        (fun j u h => by
          rw [Addr.add_lit]
          have hj : j < n := by
            have := (List.getElem?_eq_some_iff.1 h).1
            simpa [hlen] using this
          rw [hcell j hj]
          simp only [List.getElem?_map] at h
          rw [List.getElem?_eq_getElem (by omega)] at h
          simp only [Option.map_some, Option.some.injEq] at h
          rw [← h]
          simp [List.getD, List.getElem?_eq_getElem (show j < xs.length by omega)])
        (fun u hu => by obtain ⟨_, _, rfl⟩ := List.mem_map.1 hu; rfl) hpos (by unfold maxLen; omega) (by omega) hB _ rfl
      refine ⟨_, c', w', hr, by rw [← List.map_append] at hown; exact hown, hgrow, fun q e => ?_⟩
      have e' : g' = q := by simpa [Value.ownBlock] using e
      subst e'
      rcases hl with h | h
      · exact .inl h
      · right; omega
end Go.Proofs.Ytbhdjcggcgddfaa
