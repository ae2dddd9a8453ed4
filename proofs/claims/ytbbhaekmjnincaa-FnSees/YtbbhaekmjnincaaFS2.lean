/-
  Walk of the law on what a watcher sees.
-/
import Derived.Test.YtbbhaekmjnincaaFS1
import Derived.Test.YtbbhaekmjnincaaUR
import Derived.Test.YtbbhaekmjnincaaBC5
import Derived.Test.YtbbhaekmjnincaaBC2
import Derived.Test.YtbbhaekmjnincaaBC3
import Derived.Test.YtbbhaekmjnincaaBC4
import Derived.Test.YtbbhaekmjnincaaSpC
import Derived.Test.YtbbhaekmjnincaaH6
import Derived.Deep.CutBlock
import Derived.BigQuiet
import Derived.Deep.QuietTactic
namespace Go.Proofs.Ytbbhaekmjnincaa
open Go.RowKit Go.Maps Pl Il Dr

theorem numS_any (n : Int) (w : World) : Calls Try.prog 5 #[.int .i64 n] w fun e w' => e = .returned (.agg #[.int .i64 1, .int .i64 n, .string ⟨#[]⟩]) ∧ Below w.heap.size w w' := by
  go_enter Try.func5, Try.ntmps5
  go_wp2
  refine bodyPost_ret (v := .agg #[.int .i64 1, .int .i64 n, .string ⟨#[]⟩]) (by simp [results, Try.results5, go_sem]) rfl ⟨rfl, ?_⟩
  repeat (first | exact Below.refl _ _ | apply Below.drew | apply bl_alloc)
theorem wrapS {x : Int} (h : -1000000 ≤ x) (h2 : x ≤ 1000000) : IntKind.i64.wrap x = x := by rw [IntKind.wrap_i64]; omega
/-- The law's cell in its variable. -/
structure CVs (w : World) (N : Nat) (A : Na) (x : Ct) (u : World) : Prop where
  box : CBox N A x u
  own : COwn (N + 1) u A x
  cap : A.ok
  below : Below w.heap.size w u
  ge : w.heap.size ≤ N
theorem CVs.keep {w : World} {N : Nat} {A : Na} {x : Ct} {u u' : World} (h : CVs w N A x u) (hb : Below u.heap.size u u') : CVs w N A x u' := ⟨h.box.keep hb, h.own.keep hb, h.cap, bl_trans h.below hb, h.ge⟩
abbrev stC (u : World) (N : Nat) (y : Ct) (A : Na) : World := ((((((u.setCell ⟨N, 0, none⟩ (.int .i64 y.kd)).setCell ⟨N, 1, none⟩ (.int .i64 y.nu)).setCell ⟨N, 2, none⟩ (.string y.tx)).setCell ⟨N, 3, none⟩ (.int .i64 y.ve)).setCell ⟨N, 4, none⟩ (.bool y.cl)).setCell ⟨N, 5, none⟩ (.slice A.a A.n A.c)).setCell ⟨N, 6, none⟩ (.slice A.a' A.n' A.c')
theorem CVs.store {w : World} {N : Nat} {A A' : Na} {x y : Ct} {u : World} (h : CVs w N A x u) (ho : COwn (N + 1) u A' y) (hc : A'.ok) : CVs w N A' y (stC u N y A') :=
  ⟨((((((((h.box.set0 (v := y.kd)).set1 (v := y.nu)).set2 (v := y.tx)).set3 (v := y.ve)).set4 (v := y.cl)).set5 (a := A'.a) (n := A'.n) (c := A'.c)).set6 (a := A'.a') (n := A'.n') (c := A'.c')).lists y.ln y.gs), ho.farA N (by omega) _ _ _ _ _ _ _, hc, bl_sC h.below N h.ge _ _ _ _ _ _ _, h.ge⟩
/-- A block that is none of its lists'. -/
def SApt (A : Na) (g : Nat) : Prop := (A.n = 0 ∨ ∀ b off, A.a = some ⟨b, off, none⟩ → g ≠ b) ∧ (A.n' = 0 ∨ ∀ b off, A.a' = some ⟨b, off, none⟩ → g ≠ b)
theorem COwn.apt {B g : Nat} {u : World} {A : Na} {x : Ct} (h : COwn B u A x) (hg : g < B) : SApt A g := by
  obtain ⟨h1, h2⟩ := h.spans
  exact ⟨h1.imp id fun k b off e => by have := k b off e; omega, h2.imp id fun k b off e => by have := k b off e; omega⟩
theorem COwn.apt2 {B g : Nat} {u : World} {A : Na} {x : Ct} (h : COwn B u A x) (hg : u.heap.size ≤ g) : SApt A g := by
  obtain ⟨h1, h2⟩ := h.spans
  exact ⟨h1.imp id fun k b off e => by have := k b off e; omega, h2.imp id fun k b off e => by have := k b off e; omega⟩
theorem CVs.grown {w : World} {N g : Nat} {A : Na} {x : Ct} {u u' : World} (h : CVs w N A x u) (hg : u.grownBy u' (some g)) (hN : N < g) (ha : SApt A g) : CVs w N A x u' :=
  ⟨h.box.grownO hg (by intro e; cases e; omega), ⟨h.own.one.other hg ha.1, h.own.two.other hg ha.2, h.own.apart, h.own.tx⟩, h.cap, h.below.grown hg h.below.size (fun k hk => by cases hk; have := h.ge; omega), h.ge⟩
/-- What a step keeps: the cell's variable, the values. -/
structure SeR (w : World) (N : Nat) (n seen : Nat) (last v : Int) (b : Bool) (ln gs : List Int) (A : Na) (L : List Int) (g cap : Nat) (u : World) : Prop where
  cv : CVs w N A (cS v n ln gs) u
  row : Owns (N + 1) u g (n + 1) cap L
  apt : SApt A g
  len : L.length = n + 1
  at' : L.getD n 0 = v
  v0 : 0 ≤ v
  v1 : v ≤ 255
  sn : seen ≤ n
  la : last ≤ seen
  md : SeesM n seen b ln gs
def SRel (w : World) (N : Nat) (l s la wt i : Value) (u : World) : Prop := ∃ (n seen j : Nat) (last v : Int) (b : Bool) (ln gs : List Int) (A : Na) (L : List Int) (g cap : Nat),
  l = .slice (some ⟨g, 0, none⟩) (n + 1) cap ∧ s = .int .i64 (seen : Int) ∧ la = .int .i64 last ∧ wt = .bool b ∧ i = .int .i64 (j : Int) ∧ j ≤ 30 ∧ n ≤ j ∧ SeR w N n seen last v b ln gs A L g cap u
abbrev SeH (w : World) (N : Nat) (n : Nat) (v : Int) (ln gs : List Int) (A : Na) (L : List Int) (g cap : Nat) (u : World) : Prop := u.cell? ⟨N, 0, none⟩ = some (.int .i64 1) ∧ u.cell? ⟨N, 1, none⟩ = some (.int .i64 v) ∧ u.cell? ⟨N, 2, none⟩ = some (.string ⟨#[]⟩) ∧ u.cell? ⟨N, 3, none⟩ = some (.int .i64 (n : Int)) ∧ u.cell? ⟨N, 4, none⟩ = some (.bool false) ∧ u.cell? ⟨N, 5, none⟩ = some (.slice A.a A.n A.c) ∧ u.cell? ⟨N, 6, none⟩ = some (.slice A.a' A.n' A.c') ∧ CVs w N A (cS v n ln gs) u ∧ Owns (N + 1) u g (n + 1) cap L
section
variable {w : World} {N n : Nat} {v : Int} {ln gs : List Int} {A : Na} {L : List Int} {g cap : Nat} {u u' : World}
theorem SeH.mk' (h : CVs w N A (cS v n ln gs) u) (k : Owns (N + 1) u g (n + 1) cap L) : SeH w N n v ln gs A L g cap u := ⟨h.box.c0, h.box.c1, h.box.c2, h.box.c3, h.box.c4, h.box.c5, h.box.c6, h, k⟩
theorem SeH.cv (h : SeH w N n v ln gs A L g cap u) : CVs w N A (cS v n ln gs) u := h.2.2.2.2.2.2.2.1
theorem SeH.row (h : SeH w N n v ln gs A L g cap u) : Owns (N + 1) u g (n + 1) cap L := h.2.2.2.2.2.2.2.2
theorem SeH.keep (h : SeH w N n v ln gs A L g cap u) (hb : Below u.heap.size u u') : SeH w N n v ln gs A L g cap u' := SeH.mk' (h.cv.keep hb) (owns_keep h.row hb)
theorem SeH.drew (h : SeH w N n v ln gs A L g cap u) : SeH w N n v ln gs A L g cap u.drew := h.keep (Below.refl _ _).drew
end
theorem wf3 : (Lit.int .i64 3).wf = true := by decide
theorem wf1 : (Lit.int .i64 1).wf = true := by decide
theorem sees_wf {n seen : Int} {b : Bool} {ln gs : List Int} (h : SeesM n seen b ln gs) : wfL ln ∧ wfL gs := by
  cases h using SeesM.elim
  · exact ⟨(fun x hx => by cases hx), (fun x hx => by cases hx)⟩
  · exact ⟨(fun x hx => by rw [List.mem_singleton.1 hx]; exact wf3), (fun x hx => by cases hx)⟩
  · exact ⟨(fun x hx => by cases hx), (fun x hx => by rw [List.mem_singleton.1 hx]; exact wf3)⟩
theorem sees_len {n seen : Int} {b : Bool} {ln gs : List Int} (h : SeesM n seen b ln gs) : ln.length ≤ 1 ∧ gs.length ≤ 1 := by cases h using SeesM.elim <;> simp
theorem SeR.small {w : World} {N n seen : Nat} {last v : Int} {b : Bool} {ln gs : List Int} {A : Na} {L : List Int} {g cap : Nat} {u : World} (h : SeR w N n seen last v b ln gs A L g cap u) : A.n ≤ 1 ∧ A.n' ≤ 1 := by
  have h1 := h.cv.own.one.ints.len
  have h2 := h.cv.own.two.ints.len
  have h3 := sees_len h.md
  simp only [cS] at h1 h2
  omega
theorem getD_snoc {L : List Int} {m : Nat} {x : Int} (h : L.length = m) : (L ++ [x]).getD m 0 = x := by
  rw [List.getD_eq_getElem?_getD, List.getElem?_append_right (by omega)]
  simp [h]
theorem owns_far7 {B : Nat} {w : World} {g n cap : Nat} {xs : List Int} (h : Owns B w g n cap xs) {N : Nat} (hN : N < B) (y : Ct) (A : Na) : Owns B (stC w N y A) g n cap xs := by
  have key : ∀ {u : World} (o : Nat) (z : Value), Owns B u g n cap xs → Owns B (u.setCell ⟨N, o, none⟩ z) g n cap xs := fun {u} o z hu => by
    obtain ⟨hg, hgl, _⟩ := (owns_parts hu).2
    refine hu.kept (row := some N) ⟨rfl, rfl, rfl, by simp, fun k _ hk => Below.heap_setCell _ _ _ _ (by rintro rfl; exact hk rfl)⟩ ?_
    exact .inr (by intro e; simp [Value.ownBlock] at e; omega)
  exact key 6 _ (key 5 _ (key 4 _ (key 3 _ (key 2 _ (key 1 _ (key 0 _ h))))))
theorem SeR.keep {w : World} {N n seen : Nat} {last v : Int} {b : Bool} {ln gs : List Int} {A : Na} {L : List Int} {g cap : Nat} {u u' : World} (h : SeR w N n seen last v b ln gs A L g cap u) (hb : Below u.heap.size u u') : SeR w N n seen last v b ln gs A L g cap u' := ⟨h.cv.keep hb, owns_keep h.row hb, h.apt, h.len, h.at', h.v0, h.v1, h.sn, h.la, h.md⟩
theorem ints_at {w : World} {g n : Nat} {xs : List Int} (h : IntsAt w (some ⟨g, 0, none⟩) n xs) {k : Nat} (hk : k < n) : w.cell? ⟨g, k, none⟩ = some (.int .i64 (xs.getD k 0)) := by
  rcases h.2 with e | ⟨b, off, e, _, hc⟩
  · have h1 := h.1
    subst e
    simp at h1
    omega
  · cases e
    have := hc k hk
    rwa [Nat.zero_add] at this
set_option maxRecDepth 100000 in
set_option maxHeartbeats 8000000 in
theorem fnSees_of (a : Option Addr) (len cap0 : Nat) (w : World) (hB : len ≤ 1048576 → Bytes w.heap.size w a len cap0) :
    Calls Try.prog 3 #[.slice a len cap0] w fun e w' => e = .returned (.bool true) ∧ Below w.heap.size w w' := by
  go_enter Try.func3, Try.ntmps3
  go_wp2_with fail
  refine (bigC_any a len cap0 _).mono ?_
  rintro e w1 ⟨rfl, hw1⟩
  obtain rfl : w = w1 := hw1.symm
  by_cases hbig : 1048576 < len
  · have hb' : decide (1048576 < len) = true := by simp [hbig]
    rw [hb']
    go_wp2
    go_ret
    exact ⟨rfl, Below.refl _ _⟩
  have hb' : decide (1048576 < len) = false := by simp [hbig]
  rw [hb']
  obtain ⟨f, hf0, hf⟩ := at_fn _ a len cap0 w (hB (by omega))
  have HF := hidOf hf
  have HF0 := hidOf hf0
  clear hB hbig hb' hf hf0
  go_wp2_with fail
  refine (numS_any 0 w).mono ?_
  rintro e w2 ⟨rfl, hb2⟩
  have hS0 : SeR w w2.heap.size 0 0 (-1) 0 false [] [] Na.zero [0] (w2.heap.size + 1) 1 ((w2.alloc (.cells #[.int .i64 1, .int .i64 0, .string ⟨#[]⟩, .int .i64 0, .bool false, .slice none 0 0, .slice none 0 0] 29)).alloc (.cells #[.int .i64 0] 3)) := by
    generalize hN : w2.heap.size = N
    generalize hW3 : w2.alloc (.cells #[.int .i64 1, .int .i64 0, .string ⟨#[]⟩, .int .i64 0, .bool false, .slice none 0 0, .slice none 0 0] 29) = W3
    have hV3 : CVs w N Na.zero (cS 0 (0 : Nat) [] []) W3 := by
      subst hN hW3
      exact ⟨CBox.new w2 Na.zero (cS 0 (0 : Nat) [] []) _, ⟨⟨⟨rfl, .inl rfl⟩, .inl rfl⟩, ⟨⟨rfl, .inl rfl⟩, .inl rfl⟩, .inl rfl, Nat.zero_le _⟩, ⟨Nat.le_refl _, Nat.le_refl _⟩, bl_alloc hb2 _, hb2.size⟩
    have hz3 : W3.heap.size = N + 1 := by subst hN hW3; simp
    have hO4 : Owns (N + 1) (W3.alloc (.cells #[.int .i64 0] 3)) (N + 1) 1 1 [0] := by
      rw [← hz3]
      exact ⟨rfl, .inr ⟨W3.heap.size, 1, #[.int .i64 0], rfl, Nat.le_refl _, heap_alloc_new W3 _, Nat.le_refl _, by unfold maxLen; omega, rfl, rfl⟩⟩
    exact ⟨hV3.keep (bl_alloc (Below.refl _ _) _), hO4, ⟨.inl rfl, .inl rfl⟩, rfl, rfl, by omega, by omega, Nat.le_refl _, by omega, .idle⟩
  have HS0 := hidOf hS0
  clear hS0 hb2
  go_wp2_with fail
  generalize (w2.alloc (.cells #[.int .i64 1, .int .i64 0, .string ⟨#[]⟩, .int .i64 0, .bool false, .slice none 0 0, .slice none 0 0] 29)).alloc (.cells #[.int .i64 0] 3) = W4 at HS0 ⊢
  generalize w2.heap.size = N at HS0 ⊢
  go_loopw [4, 5, 6, 7, 8] (fun l s la wt i wr => SRel w N l s la wt i wr) (fun _ _ _ _ i _ => 30 - (intOf i).toNat)
  case atStart => exact ⟨0, 0, 0, -1, 0, false, [], [], Na.zero, [0], N + 1, 1, rfl, rfl, rfl, rfl, rfl, by omega, by omega, HS0.out⟩
  case round =>
    rename_i wr
    clear HS0
    obtain ⟨n, seen, j, last, v, b, ln, gs, A, L, g, cap, rfl, rfl, rfl, rfl, rfl, hj, hnj, hS⟩ := hrel
    have HS := hidOf hS
    have hsm := hS.small
    have hvv := And.intro hS.v0 hS.v1
    have hwf := sees_wf hS.md
    have HWf := hidOf (show CWf (cS v n ln gs) from ⟨hwf.1, hwf.2⟩)
    have HBel := hidOf hS.cv.below
    have HIn := hidOf hS.cv.own.nin
    have hcok := hS.cv.cap
    have hsl := hS.sn
    have hla := hS.la
    have hH : SeH w N n v ln gs A L g cap wr := SeH.mk' hS.cv hS.row
    obtain ⟨p0, p1, p2, p3, p4, p5, p6, _, _⟩ := id hH
    clear hS hwf
    by_cases hlt : j < 30
    · have hji : (j : Int) < 30 := by omega
      go_wp2_with fail
      refine (HF.out j (by omega) wr HBel.out).mono ?_
      rintro e w3 ⟨rfl, hw3⟩
      obtain rfl : wr = w3 := hw3.symm
      clear hw3
      have hfj := HF0.out j
      by_cases hev : (f j) % 2 = 0
      · have hev' : (f j % 2 == 0) = true := by simp [hev]
        have HU := hidOf (fun (u : World) (hu : CVs w N A (cS v n ln gs) u) => show Calls Try.prog 7 #[.agg #[.int .i64 1, .int .i64 v, .string ⟨#[]⟩, .int .i64 (n : Int), .bool false, .slice A.a A.n A.c, .slice A.a' A.n' A.c'], .agg #[.int .i64 1, .int .i64 1, .int .i64 (f (j + 31)), .string ⟨#[]⟩]] u fun e w' => COutT u (cS (f (j + 31)) ((n + 1 : Nat) : Int) [] (gs ++ ln)) ln 0 e w' by
          have h := implUpdate_any A (cS v n ln gs) (1, 1, f (j + 31), ⟨#[]⟩) u hu.own.nin (by omega) (by omega) HWf.out (Nat.zero_le _) wf1
          rw [up_cs HS.out.md hvv.1 hvv.2 (by omega) (by omega) (HF0.out _).1 (HF0.out _).2] at h
          exact h)
        have HUp := hidOf (sees_up HS.out.md)
        have HF31 := hidOf (fun (u : World) (hu : Below w.heap.size w u) => show Calls Try.prog 6 #[.slice a len cap0, .int .i64 ((j : Int) + 31)] u fun e u' => e = .returned (.int .i64 (f (j + 31))) ∧ Below u.heap.size u u' by
          have h := HF.out (j + 31) (by omega) u hu
          rw [show ((j + 31 : Nat) : Int) = (j : Int) + 31 by omega] at h
          exact h.mono fun e u' ⟨h1, h2⟩ => ⟨h1, by rw [h2]; exact Below.refl _ _⟩)
        have hwr : IntKind.i64.wrap ((j : Int) + 31) = (j : Int) + 31 := wrapS (by omega) (by omega)
        clear hev
        go_upto_region 10 with fail
        go_cut [9, 10, 11] from 26 to 150 (fun va vb vc wx => ∃ (R : Nat) (Aw : Na) (al : Option Addr) (ml cl : Nat), va = .pointer (some ⟨R, 0, none⟩) ∧ vb = .slice al ml cl ∧ vc = .int .i64 0 ∧ Aw.ok ∧ UrR wr (cS (f (j + 31)) ((n + 1 : Nat) : Int) [] (gs ++ ln)) ln R Aw al ml wx)
        case first =>
          go_wp2_with fail
          refine wp_region_noPanic ?_
          refine wp_region_held_drew (S := fun u => SeH w N n v ln gs A L g cap u) (by kernel_rfl) hH.drew (fun hHeld => ?_)
          refine wpAnyH_take (i := 0) (v := ?_) rfl (by kernel_rfl) (by kernel_rfl) (by kernel_rfl) (fun _ _ _ h => h) (Or.inl ⟨by rfl, ?_⟩) (by assumption) ?_
          case refine_2 => (intro w hSw; (try dsimp only at hSw); go_simp; try with_reducible rfl)
          simp only [Act.put, List.getElem_toArray, List.getElem_cons_zero, List.setIfInBounds_toArray, List.set_cons_zero, List.set_cons_succ]
          refine wpAnyH_take (i := 1) (v := ?_) rfl (by kernel_rfl) (by kernel_rfl) (by kernel_rfl) (fun _ _ _ h => h) (Or.inl ⟨by rfl, ?_⟩) (by assumption) ?_
          case refine_2 => (intro w hSw; (try dsimp only at hSw); go_simp; try with_reducible rfl)
          simp only [Act.put, zGA, zG0, zGC, zSA, zS0, zSC]
          refine wpAnyH_take (i := 2) (v := ?_) rfl (by kernel_rfl) (by kernel_rfl) (by kernel_rfl) (fun _ _ _ h => h) (Or.inl ⟨by rfl, ?_⟩) (by assumption) ?_
          case refine_2 => (intro w hSw; (try dsimp only at hSw); go_simp; try with_reducible rfl)
          simp only [Act.put, zGA, zG0, zGC, zSA, zS0, zSC]
          refine wpAnyH_take (i := 3) (v := ?_) rfl (by kernel_rfl) (by kernel_rfl) (by kernel_rfl) (fun _ _ _ h => h) (Or.inl ⟨by rfl, ?_⟩) (by assumption) ?_
          case refine_2 => (intro w hSw; (try dsimp only at hSw); go_simp; try with_reducible rfl)
          simp only [Act.put, zGA, zG0, zGC, zSA, zS0, zSC]
          refine wpAnyH_ready (rs := [4, 12]) (by kernel_rfl) (by simp) ?_
          refine AllReadyH.cons rfl (fun K hK => ?_) (AllReadyH.cons rfl (fun K hK => ?_) AllReadyH.nil)
          · have hu0 : Below wr.heap.size wr wr.drew := (Below.refl _ _).drew
            go_simp
            refine (HF31.out _ hHeld.cv.below).mono ?_
            rintro e v1 ⟨rfl, hv1⟩
            go_wp2_with fail
            have hu1 := bl_trans hu0 hv1
            have hS1 := SeH.keep hHeld hv1
            refine hK.out _ _ hS1 (fun hHeld => ?_)
            clear hK K
            refine wpAnyH_ready (rs := [5, 12]) (by kernel_rfl) (by simp) ?_
            refine AllReadyH.cons rfl (fun K hK => ?_) (AllReadyH.cons rfl (fun K hK => ?_) AllReadyH.nil)
            · go_simp
              refine (numS_any _ _).mono ?_
              rintro e v2 ⟨rfl, hv2⟩
              go_wp2_with fail
              have hu2 := bl_trans hu1 hv2
              have hS2 := SeH.keep hHeld hv2
              refine hK.out _ _ hS2 (fun hHeld => ?_)
              clear hK K
              refine wpAnyH_take (i := 6) (v := ?_) rfl (by kernel_rfl) (by kernel_rfl) (by kernel_rfl) (fun _ _ _ h => h) (Or.inl ⟨by rfl, ?_⟩) (by assumption) ?_
              case refine_2 => (intro w hSw; (try dsimp only at hSw); go_simp; try with_reducible rfl)
              simp only [Act.put, zGA, zG0, zGC, zSA, zS0, zSC]
              refine wpAnyH_ready (rs := [7, 12]) (by kernel_rfl) (by simp) ?_
              refine AllReadyH.cons rfl (fun K hK => ?_) (AllReadyH.cons rfl (fun K hK => ?_) AllReadyH.nil)
              · go_simp
                refine (HU.out _ hHeld.cv).mono ?_
                rintro e v3 ⟨Aw, al, ml, cl, rfl, how, hok6, hol, hap, hbl⟩
                go_wp2_with fail
                have hbc := hu2
                have hSl := SeH.keep hHeld hbl
                refine hK.out _ _ hSl (fun hHeld => ?_)
                clear hK K
                refine wpAnyH_take (i := 8) (v := ?_) rfl (by kernel_rfl) (by kernel_rfl) (by kernel_rfl) (fun _ _ _ h => h) (Or.inl ⟨by rfl, ?_⟩) (by assumption) ?_
                case refine_2 => (intro w hSw; (try dsimp only at hSw); go_simp; try with_reducible rfl)
                simp only [Act.put, zGA, zG0, zGC, zSA, zS0, zSC]
                refine wpAnyH_take (i := 9) (v := ?_) rfl (by kernel_rfl) (by kernel_rfl) (by kernel_rfl) (fun _ _ _ h => h) (Or.inl ⟨by rfl, ?_⟩) (by assumption) ?_
                case refine_2 => (intro w hSw; (try dsimp only at hSw); go_simp; try with_reducible rfl)
                simp only [Act.put, zGA, zG0, zGC, zSA, zS0, zSC]
                refine wpAnyH_take (i := 10) (v := ?_) rfl (by kernel_rfl) (by kernel_rfl) (by kernel_rfl) (fun _ _ _ h => h) (Or.inl ⟨by rfl, ?_⟩) (by assumption) ?_
                case refine_2 => (intro w hSw; (try dsimp only at hSw); go_simp; try with_reducible rfl)
                simp only [Act.put, zGA, zG0, zGC, zSA, zS0, zSC]
                refine wpAnyH_take (i := 11) (v := ?_) rfl (by kernel_rfl) (by kernel_rfl) (by kernel_rfl) (fun _ _ _ h => h) (Or.inl ⟨by rfl, ?_⟩) (by assumption) ?_
                case refine_2 => (intro w hSw; (try dsimp only at hSw); go_simp; try with_reducible rfl)
                simp only [Act.put, zGA, zG0, zGC, zSA, zS0, zSC]
                refine wpAnyH_ready (rs := [12]) (by kernel_rfl) (by simp) ?_
                refine AllReadyH.cons rfl (fun K hK => ?_) AllReadyH.nil
                go_simp
                refine hK.out _ _ (SeH.keep hSl (bl_alloc (Below.refl _ _) _)) (fun hHeld => ?_)
                clear hK K
                refine wpAnyH_ready (rs := [13]) (by kernel_rfl) (by simp) ?_
                refine AllReadyH.cons rfl (fun K hK => ?_) AllReadyH.nil
                go_simp
                refine hK.out _ _ (SeH.keep hSl (bl_alloc (Below.refl _ _) _)) (fun hHeld => ?_)
                clear hK K
                refine wpAnyH_take (i := 14) (v := ?_) rfl (by kernel_rfl) (by kernel_rfl) (by kernel_rfl) (fun _ _ _ h => h) (Or.inl ⟨by rfl, ?_⟩) (by assumption) ?_
                case refine_2 => (intro w hSw; (try dsimp only at hSw); go_simp; try with_reducible rfl)
                simp only [Act.put, zGA, zG0, zGC, zSA, zS0, zSC]
                refine wpAnyH_take (i := 15) (v := ?_) rfl (by kernel_rfl) (by kernel_rfl) (by kernel_rfl) (fun _ _ _ h => h) (Or.inl ⟨by rfl, ?_⟩) (by assumption) ?_
                case refine_2 => (intro w hSw; (try dsimp only at hSw); go_simp; try with_reducible rfl)
                simp only [Act.put, zGA, zG0, zGC, zSA, zS0, zSC]
                refine wpAnyH_done (by kernel_rfl) ?_ _
                refine NoPanic.normal ?_
                go_wp2_with fail
                go_meet
                exact ⟨_, _, _, _, _, rfl, rfl, rfl, hok6, UrR.last hbc how hol hap hbl _⟩
              · go_simp
                have ba : Below v2.heap.size v2 (v2.alloc (.cells #[.int .i64 0, .int .i64 0, .string ⟨#[]⟩, .int .i64 0, .bool false, .slice none 0 0, .slice none 0 0] 29)) := bl_alloc (Below.refl _ _) _
                have Z2 := CBox.newZ v2 29
                have hRu : wr.heap.size ≤ v2.heap.size := hu2.size
                refine hK.out _ _ (SeH.keep hS2 ba) (fun hHeld => ?_)
                clear hK K
                have hu2 := bl_trans hu2 ba
                refine wpAnyH_ready (rs := [7]) (by kernel_rfl) (by simp) ?_
                refine AllReadyH.cons rfl (fun K hK => ?_) AllReadyH.nil
                go_simp
                refine (HU.out _ hHeld.cv).mono ?_
                rintro e v3 ⟨Aw, al, ml, cl, rfl, how, hok6, hol, hap, hbl⟩
                go_wp2_with fail
                have Zc := Z2
                have Zl := Z2.keep hbl
                have hbc := hu2
                have hSl := SeH.keep hHeld hbl
                refine hK.out _ _ hSl (fun hHeld => ?_)
                clear hK K
                refine wpAnyH_take (i := 8) (v := ?_) rfl (by kernel_rfl) (by kernel_rfl) (by kernel_rfl) (fun _ _ _ h => h) (Or.inl ⟨by rfl, ?_⟩) (by assumption) ?_
                case refine_2 => (intro w hSw; (try dsimp only at hSw); go_simp; try with_reducible rfl)
                simp only [Act.put, zGA, zG0, zGC, zSA, zS0, zSC]
                refine wpAnyH_take (i := 9) (v := ?_) rfl (by kernel_rfl) (by kernel_rfl) (by kernel_rfl) (fun _ _ _ h => h) (Or.inl ⟨by rfl, ?_⟩) (by assumption) ?_
                case refine_2 => (intro w hSw; (try dsimp only at hSw); go_simp; try with_reducible rfl)
                simp only [Act.put, zGA, zG0, zGC, zSA, zS0, zSC]
                refine wpAnyH_take (i := 10) (v := ?_) rfl (by kernel_rfl) (by kernel_rfl) (by kernel_rfl) (fun _ _ _ h => h) (Or.inl ⟨by rfl, ?_⟩) (by assumption) ?_
                case refine_2 => (intro w hSw; (try dsimp only at hSw); go_simp; try with_reducible rfl)
                simp only [Act.put, zGA, zG0, zGC, zSA, zS0, zSC]
                refine wpAnyH_take (i := 11) (v := ?_) rfl (by kernel_rfl) (by kernel_rfl) (by kernel_rfl) (fun _ _ _ h => h) (Or.inl ⟨by rfl, ?_⟩) (by assumption) ?_
                case refine_2 => (intro w hSw; (try dsimp only at hSw); go_simp; try with_reducible rfl)
                simp only [Act.put, zGA, zG0, zGC, zSA, zS0, zSC]
                obtain ⟨kl, k0, k1, k2, k3, k4, k5, k6, kf⟩ := id Zl
                have hUP := UrR.first hbc how hol hap hbl hRu Zc.lt Zl
                have hSs : SeH w N n v ln gs A L g cap _ := SeH.keep hH hUP.below
                refine wpAnyH_ready (rs := [13]) (by kernel_rfl) (by simp) ?_
                refine AllReadyH.cons rfl (fun K hK => ?_) AllReadyH.nil
                go_simp
                refine hK.out _ _ hSs (fun hHeld => ?_)
                clear hK K
                refine wpAnyH_take (i := 14) (v := ?_) rfl (by kernel_rfl) (by kernel_rfl) (by kernel_rfl) (fun _ _ _ h => h) (Or.inl ⟨by rfl, ?_⟩) (by assumption) ?_
                case refine_2 => (intro w hSw; (try dsimp only at hSw); go_simp; try with_reducible rfl)
                simp only [Act.put, zGA, zG0, zGC, zSA, zS0, zSC]
                refine wpAnyH_take (i := 15) (v := ?_) rfl (by kernel_rfl) (by kernel_rfl) (by kernel_rfl) (fun _ _ _ h => h) (Or.inl ⟨by rfl, ?_⟩) (by assumption) ?_
                case refine_2 => (intro w hSw; (try dsimp only at hSw); go_simp; try with_reducible rfl)
                simp only [Act.put, zGA, zG0, zGC, zSA, zS0, zSC]
                refine wpAnyH_done (by kernel_rfl) ?_ _
                refine NoPanic.normal ?_
                go_wp2_with fail
                go_meet
                exact ⟨_, _, _, _, _, rfl, rfl, rfl, hok6, hUP⟩
            · go_simp
              have ba : Below v1.heap.size v1 (v1.alloc (.cells #[.int .i64 0, .int .i64 0, .string ⟨#[]⟩, .int .i64 0, .bool false, .slice none 0 0, .slice none 0 0] 29)) := bl_alloc (Below.refl _ _) _
              have Z1 := CBox.newZ v1 29
              have hRu : wr.heap.size ≤ v1.heap.size := hu1.size
              refine hK.out _ _ (SeH.keep hS1 ba) (fun hHeld => ?_)
              clear hK K
              have hu1 := bl_trans hu1 ba
              refine wpAnyH_ready (rs := [5]) (by kernel_rfl) (by simp) ?_
              refine AllReadyH.cons rfl (fun K hK => ?_) AllReadyH.nil
              go_simp
              refine (numS_any _ _).mono ?_
              rintro e v2 ⟨rfl, hv2⟩
              go_wp2_with fail
              have Z2 := Z1.keep hv2
              have hu2 := bl_trans hu1 hv2
              have hS2 := SeH.keep hHeld hv2
              refine hK.out _ _ hS2 (fun hHeld => ?_)
              clear hK K
              refine wpAnyH_take (i := 6) (v := ?_) rfl (by kernel_rfl) (by kernel_rfl) (by kernel_rfl) (fun _ _ _ h => h) (Or.inl ⟨by rfl, ?_⟩) (by assumption) ?_
              case refine_2 => (intro w hSw; (try dsimp only at hSw); go_simp; try with_reducible rfl)
              simp only [Act.put, zGA, zG0, zGC, zSA, zS0, zSC]
              refine wpAnyH_ready (rs := [7]) (by kernel_rfl) (by simp) ?_
              refine AllReadyH.cons rfl (fun K hK => ?_) AllReadyH.nil
              go_simp
              refine (HU.out _ hHeld.cv).mono ?_
              rintro e v3 ⟨Aw, al, ml, cl, rfl, how, hok6, hol, hap, hbl⟩
              go_wp2_with fail
              have Zc := Z2
              have Zl := Z2.keep hbl
              have hbc := hu2
              have hSl := SeH.keep hHeld hbl
              refine hK.out _ _ hSl (fun hHeld => ?_)
              clear hK K
              refine wpAnyH_take (i := 8) (v := ?_) rfl (by kernel_rfl) (by kernel_rfl) (by kernel_rfl) (fun _ _ _ h => h) (Or.inl ⟨by rfl, ?_⟩) (by assumption) ?_
              case refine_2 => (intro w hSw; (try dsimp only at hSw); go_simp; try with_reducible rfl)
              simp only [Act.put, zGA, zG0, zGC, zSA, zS0, zSC]
              refine wpAnyH_take (i := 9) (v := ?_) rfl (by kernel_rfl) (by kernel_rfl) (by kernel_rfl) (fun _ _ _ h => h) (Or.inl ⟨by rfl, ?_⟩) (by assumption) ?_
              case refine_2 => (intro w hSw; (try dsimp only at hSw); go_simp; try with_reducible rfl)
              simp only [Act.put, zGA, zG0, zGC, zSA, zS0, zSC]
              refine wpAnyH_take (i := 10) (v := ?_) rfl (by kernel_rfl) (by kernel_rfl) (by kernel_rfl) (fun _ _ _ h => h) (Or.inl ⟨by rfl, ?_⟩) (by assumption) ?_
              case refine_2 => (intro w hSw; (try dsimp only at hSw); go_simp; try with_reducible rfl)
              simp only [Act.put, zGA, zG0, zGC, zSA, zS0, zSC]
              refine wpAnyH_take (i := 11) (v := ?_) rfl (by kernel_rfl) (by kernel_rfl) (by kernel_rfl) (fun _ _ _ h => h) (Or.inl ⟨by rfl, ?_⟩) (by assumption) ?_
              case refine_2 => (intro w hSw; (try dsimp only at hSw); go_simp; try with_reducible rfl)
              simp only [Act.put, zGA, zG0, zGC, zSA, zS0, zSC]
              obtain ⟨kl, k0, k1, k2, k3, k4, k5, k6, kf⟩ := id Zl
              have hUP := UrR.first hbc how hol hap hbl hRu Zc.lt Zl
              have hSs : SeH w N n v ln gs A L g cap _ := SeH.keep hH hUP.below
              refine wpAnyH_ready (rs := [13]) (by kernel_rfl) (by simp) ?_
              refine AllReadyH.cons rfl (fun K hK => ?_) AllReadyH.nil
              go_simp
              refine hK.out _ _ hSs (fun hHeld => ?_)
              clear hK K
              refine wpAnyH_take (i := 14) (v := ?_) rfl (by kernel_rfl) (by kernel_rfl) (by kernel_rfl) (fun _ _ _ h => h) (Or.inl ⟨by rfl, ?_⟩) (by assumption) ?_
              case refine_2 => (intro w hSw; (try dsimp only at hSw); go_simp; try with_reducible rfl)
              simp only [Act.put, zGA, zG0, zGC, zSA, zS0, zSC]
              refine wpAnyH_take (i := 15) (v := ?_) rfl (by kernel_rfl) (by kernel_rfl) (by kernel_rfl) (fun _ _ _ h => h) (Or.inl ⟨by rfl, ?_⟩) (by assumption) ?_
              case refine_2 => (intro w hSw; (try dsimp only at hSw); go_simp; try with_reducible rfl)
              simp only [Act.put, zGA, zG0, zGC, zSA, zS0, zSC]
              refine wpAnyH_done (by kernel_rfl) ?_ _
              refine NoPanic.normal ?_
              go_wp2_with fail
              go_meet
              exact ⟨_, _, _, _, _, rfl, rfl, rfl, hok6, hUP⟩
          · go_simp
            have ba : Below wr.heap.size wr (wr.alloc (.cells #[.int .i64 0, .int .i64 0, .string ⟨#[]⟩, .int .i64 0, .bool false, .slice none 0 0, .slice none 0 0] 29)).drew := (bl_alloc (Below.refl _ _) _).drew
            have Z0 := (CBox.newZ wr 29).keep (Below.refl _ _).drew
            have hRu : wr.heap.size ≤ wr.heap.size := Nat.le_refl _
            refine hK.out _ _ (SeH.keep hH ba) (fun hHeld => ?_)
            clear hK K
            have hu0 := ba
            refine wpAnyH_ready (rs := [4]) (by kernel_rfl) (by simp) ?_
            refine AllReadyH.cons rfl (fun K hK => ?_) AllReadyH.nil
            go_simp
            refine (HF31.out _ hHeld.cv.below).mono ?_
            rintro e v1 ⟨rfl, hv1⟩
            go_wp2_with fail
            have Z1 := Z0.keep hv1
            have hu1 := bl_trans hu0 hv1
            have hS1 := SeH.keep hHeld hv1
            refine hK.out _ _ hS1 (fun hHeld => ?_)
            clear hK K
            refine wpAnyH_ready (rs := [5]) (by kernel_rfl) (by simp) ?_
            refine AllReadyH.cons rfl (fun K hK => ?_) AllReadyH.nil
            go_simp
            refine (numS_any _ _).mono ?_
            rintro e v2 ⟨rfl, hv2⟩
            go_wp2_with fail
            have Z2 := Z1.keep hv2
            have hu2 := bl_trans hu1 hv2
            have hS2 := SeH.keep hHeld hv2
            refine hK.out _ _ hS2 (fun hHeld => ?_)
            clear hK K
            refine wpAnyH_take (i := 6) (v := ?_) rfl (by kernel_rfl) (by kernel_rfl) (by kernel_rfl) (fun _ _ _ h => h) (Or.inl ⟨by rfl, ?_⟩) (by assumption) ?_
            case refine_2 => (intro w hSw; (try dsimp only at hSw); go_simp; try with_reducible rfl)
            simp only [Act.put, zGA, zG0, zGC, zSA, zS0, zSC]
            refine wpAnyH_ready (rs := [7]) (by kernel_rfl) (by simp) ?_
            refine AllReadyH.cons rfl (fun K hK => ?_) AllReadyH.nil
            go_simp
            refine (HU.out _ hHeld.cv).mono ?_
            rintro e v3 ⟨Aw, al, ml, cl, rfl, how, hok6, hol, hap, hbl⟩
            go_wp2_with fail
            have Zc := Z2
            have Zl := Z2.keep hbl
            have hbc := hu2
            have hSl := SeH.keep hHeld hbl
            refine hK.out _ _ hSl (fun hHeld => ?_)
            clear hK K
            refine wpAnyH_take (i := 8) (v := ?_) rfl (by kernel_rfl) (by kernel_rfl) (by kernel_rfl) (fun _ _ _ h => h) (Or.inl ⟨by rfl, ?_⟩) (by assumption) ?_
            case refine_2 => (intro w hSw; (try dsimp only at hSw); go_simp; try with_reducible rfl)
            simp only [Act.put, zGA, zG0, zGC, zSA, zS0, zSC]
            refine wpAnyH_take (i := 9) (v := ?_) rfl (by kernel_rfl) (by kernel_rfl) (by kernel_rfl) (fun _ _ _ h => h) (Or.inl ⟨by rfl, ?_⟩) (by assumption) ?_
            case refine_2 => (intro w hSw; (try dsimp only at hSw); go_simp; try with_reducible rfl)
            simp only [Act.put, zGA, zG0, zGC, zSA, zS0, zSC]
            refine wpAnyH_take (i := 10) (v := ?_) rfl (by kernel_rfl) (by kernel_rfl) (by kernel_rfl) (fun _ _ _ h => h) (Or.inl ⟨by rfl, ?_⟩) (by assumption) ?_
            case refine_2 => (intro w hSw; (try dsimp only at hSw); go_simp; try with_reducible rfl)
            simp only [Act.put, zGA, zG0, zGC, zSA, zS0, zSC]
            refine wpAnyH_take (i := 11) (v := ?_) rfl (by kernel_rfl) (by kernel_rfl) (by kernel_rfl) (fun _ _ _ h => h) (Or.inl ⟨by rfl, ?_⟩) (by assumption) ?_
            case refine_2 => (intro w hSw; (try dsimp only at hSw); go_simp; try with_reducible rfl)
            simp only [Act.put, zGA, zG0, zGC, zSA, zS0, zSC]
            obtain ⟨kl, k0, k1, k2, k3, k4, k5, k6, kf⟩ := id Zl
            have hUP := UrR.first hbc how hol hap hbl hRu Zc.lt Zl
            have hSs : SeH w N n v ln gs A L g cap _ := SeH.keep hH hUP.below
            refine wpAnyH_ready (rs := [13]) (by kernel_rfl) (by simp) ?_
            refine AllReadyH.cons rfl (fun K hK => ?_) AllReadyH.nil
            go_simp
            refine hK.out _ _ hSs (fun hHeld => ?_)
            clear hK K
            refine wpAnyH_take (i := 14) (v := ?_) rfl (by kernel_rfl) (by kernel_rfl) (by kernel_rfl) (fun _ _ _ h => h) (Or.inl ⟨by rfl, ?_⟩) (by assumption) ?_
            case refine_2 => (intro w hSw; (try dsimp only at hSw); go_simp; try with_reducible rfl)
            simp only [Act.put, zGA, zG0, zGC, zSA, zS0, zSC]
            refine wpAnyH_take (i := 15) (v := ?_) rfl (by kernel_rfl) (by kernel_rfl) (by kernel_rfl) (fun _ _ _ h => h) (Or.inl ⟨by rfl, ?_⟩) (by assumption) ?_
            case refine_2 => (intro w hSw; (try dsimp only at hSw); go_simp; try with_reducible rfl)
            simp only [Act.put, zGA, zG0, zGC, zSA, zS0, zSC]
            refine wpAnyH_done (by kernel_rfl) ?_ _
            refine NoPanic.normal ?_
            go_wp2_with fail
            go_meet
            exact ⟨_, _, _, _, _, rfl, rfl, rfl, hok6, hUP⟩
        case rest =>
          obtain ⟨R, Aw, al, ml, cl, rfl, rfl, rfl, hok6, hU⟩ := hcut
          obtain ⟨W7, rfl⟩ : ∃ W7, W7 = wc := ⟨_, rfl⟩
          have hH7 := hH.keep hU.below
          have hml := hU.told.ints.len
          have HUr := hidOf hU
          have hR := hU.ge
          have hcl := HS.out.cv.own.two.ints.len
          obtain ⟨x, hx⟩ : ∃ x, f (j + 31) = x := ⟨_, rfl⟩
          have hx0 := HF0.out (j + 31)
          rw [hx] at hx0 HUr
          have HX := hidOf hx
          obtain ⟨t0, t1, t2, t3, t4, t5, t6, _, _⟩ := id hH7
          have hmd := HS.out.md
          simp only [cS] at hcl
          clear hU p0 p1 p2 p3 p4 p5 p6
          cases hmd using SeesM.elim with
          | idle =>
            simp only [List.length_nil] at hml hcl
            have hml2 : ml = 0 := hml.symm
            subst hml2
            clear hml hcl
            go_wp2_with fail
            refine (HF.out (j + 31) (by omega) W7 hH7.cv.below).mono ?_
            rintro e w8 ⟨rfl, hw8⟩
            obtain rfl : W7 = w8 := hw8.symm
            clear hw8
            rw [HX.out]
            obtain ⟨_, hgN, hgl, _⟩ := owns_parts hH7.row
            obtain ⟨g', c', w9, hr, ho9, hg9, hgd⟩ := append_own1 (N + 1) (n + 1) (.slice (some ⟨g, 0, none⟩) (n + 1) cap) L x W7 hH7.row (by omega) (by omega)
            have hg9' : W7.grownBy w9 (some g) := hg9
            have hV9 := hH7.cv.grown hg9' (by omega) HS.out.apt
            have hOw := HUr.out.own
            have hgl2 := (owns_parts HS.out.row).2.2.1
            have hap := hOw.apt hgl2
            have hOw9 : COwn wr.heap.size w9 Aw (cS x ((n + 1 : Nat) : Int) [] []) := ⟨hOw.one.other hg9' hap.1, hOw.two.other hg9' hap.2, hOw.apart, hOw.tx⟩
            have hBx9 := HUr.out.box.grownO hg9' (by intro e; cases e; omega)
            have hNw : N + 1 ≤ wr.heap.size := HS.out.cv.box.lt
            have hV10 := hV9.store (hOw9.mono hNw) hok6
            have hap' : SApt Aw g' := by
              rcases hgd with e | e
              · cases e; exact hap
              · exact hOw.apt2 e
            have hO10 : Owns (N + 1) (stC w9 N (cS x ((n + 1 : Nat) : Int) [] []) Aw) g' (n + 1 + 1) c' (L ++ [x]) := owns_far7 ho9 (by omega) _ _
            have HFin := hidOf (show SeR w N (n + 1) seen last x false [] [] Aw (L ++ [x]) g' c' _ from ⟨hV10, hO10, hap', by rw [List.length_append, HS.out.len]; rfl, getD_snoc HS.out.len, hx0.1, hx0.2, by omega, by omega, by have h := HUp.out; exact h⟩)
            obtain ⟨_, y0, y1, y2, y3, y4, y5, y6, yf⟩ := id hBx9
            obtain ⟨_, z0, z1, z2, z3, z4, z5, z6, zf⟩ := id hV9.box
            have Hr := hidOf hr
            clear hr ho9 hg9 hg9' hgd hV9 hOw hap hOw9 hBx9 hV10 hap' hO10 hH7 hH HUr t0 t1 t2 t3 t4 t5 t6
            go_wp2_with (first | (at_builtin; refine wpList_append_run rfl _ _ 27 rfl _ _ _ rfl rfl Hr.out ?_) | fail)
            go_roundw
            case rel => exact ⟨n + 1, seen, j + 1, last, x, false, [], [], Aw, L ++ [x], g', c', rfl, rfl, rfl, rfl, by go_num, by omega, by omega, HFin.out⟩
            case measure => simp [intOf]; omega
          | line hmm =>
            simp only [List.length_cons, List.length_nil] at hml hcl
            have hml2 : ml = 1 := hml.symm
            subst hml2
            clear hml hcl
            have HMm := hidOf hmm
            clear hmm
            go_wp2_with fail
            refine (HF.out (j + 31) (by omega) W7 hH7.cv.below).mono ?_
            rintro e w8 ⟨rfl, hw8⟩
            obtain rfl : W7 = w8 := hw8.symm
            clear hw8
            rw [HX.out]
            obtain ⟨_, hgN, hgl, _⟩ := owns_parts hH7.row
            obtain ⟨g', c', w9, hr, ho9, hg9, hgd⟩ := append_own1 (N + 1) (n + 1) (.slice (some ⟨g, 0, none⟩) (n + 1) cap) L x W7 hH7.row (by omega) (by omega)
            have hg9' : W7.grownBy w9 (some g) := hg9
            have hV9 := hH7.cv.grown hg9' (by omega) HS.out.apt
            have hOw := HUr.out.own
            have hgl2 := (owns_parts HS.out.row).2.2.1
            have hap := hOw.apt hgl2
            have hOw9 : COwn wr.heap.size w9 Aw (cS x ((n + 1 : Nat) : Int) [] [3]) := ⟨hOw.one.other hg9' hap.1, hOw.two.other hg9' hap.2, hOw.apart, hOw.tx⟩
            have hBx9 := HUr.out.box.grownO hg9' (by intro e; cases e; omega)
            have hNw : N + 1 ≤ wr.heap.size := HS.out.cv.box.lt
            have hV10 := hV9.store (hOw9.mono hNw) hok6
            have hap' : SApt Aw g' := by
              rcases hgd with e | e
              · cases e; exact hap
              · exact hOw.apt2 e
            have hO10 : Owns (N + 1) (stC w9 N (cS x ((n + 1 : Nat) : Int) [] [3]) Aw) g' (n + 1 + 1) c' (L ++ [x]) := owns_far7 ho9 (by omega) _ _
            have HFin := hidOf (show SeR w N (n + 1) seen last x true [] [3] Aw (L ++ [x]) g' c' _ from ⟨hV10, hO10, hap', by rw [List.length_append, HS.out.len]; rfl, getD_snoc HS.out.len, hx0.1, hx0.2, by omega, by omega, by have h := HUp.out; exact h⟩)
            obtain ⟨_, y0, y1, y2, y3, y4, y5, y6, yf⟩ := id hBx9
            obtain ⟨_, z0, z1, z2, z3, z4, z5, z6, zf⟩ := id hV9.box
            have Hr := hidOf hr
            clear hr ho9 hg9 hg9' hgd hV9 hOw hap hOw9 hBx9 hV10 hap' hO10 hH7 hH HUr t0 t1 t2 t3 t4 t5 t6
            go_wp2_with (first | (at_builtin; refine wpList_append_run rfl _ _ 27 rfl _ _ _ rfl rfl Hr.out ?_) | fail)
            go_roundw
            case rel => exact ⟨n + 1, seen, j + 1, last, x, true, [], [3], Aw, L ++ [x], g', c', rfl, rfl, rfl, rfl, by go_num, by omega, by omega, HFin.out⟩
            case measure => simp [intOf]; omega
          | told hmm =>
            simp only [List.length_cons, List.length_nil] at hml hcl
            have hml2 : ml = 0 := hml.symm
            subst hml2
            have hn0 : ((A.n' : Int) == 0) = false := by rw [← hcl]; decide
            clear hml hcl
            have HMm := hidOf hmm
            clear hmm
            go_wp2_with fail
            refine (HF.out (j + 31) (by omega) W7 hH7.cv.below).mono ?_
            rintro e w8 ⟨rfl, hw8⟩
            obtain rfl : W7 = w8 := hw8.symm
            clear hw8
            rw [HX.out]
            obtain ⟨_, hgN, hgl, _⟩ := owns_parts hH7.row
            obtain ⟨g', c', w9, hr, ho9, hg9, hgd⟩ := append_own1 (N + 1) (n + 1) (.slice (some ⟨g, 0, none⟩) (n + 1) cap) L x W7 hH7.row (by omega) (by omega)
            have hg9' : W7.grownBy w9 (some g) := hg9
            have hV9 := hH7.cv.grown hg9' (by omega) HS.out.apt
            have hOw := HUr.out.own
            have hgl2 := (owns_parts HS.out.row).2.2.1
            have hap := hOw.apt hgl2
            have hOw9 : COwn wr.heap.size w9 Aw (cS x ((n + 1 : Nat) : Int) [] [3]) := ⟨hOw.one.other hg9' hap.1, hOw.two.other hg9' hap.2, hOw.apart, hOw.tx⟩
            have hBx9 := HUr.out.box.grownO hg9' (by intro e; cases e; omega)
            have hNw : N + 1 ≤ wr.heap.size := HS.out.cv.box.lt
            have hV10 := hV9.store (hOw9.mono hNw) hok6
            have hap' : SApt Aw g' := by
              rcases hgd with e | e
              · cases e; exact hap
              · exact hOw.apt2 e
            have hO10 : Owns (N + 1) (stC w9 N (cS x ((n + 1 : Nat) : Int) [] [3]) Aw) g' (n + 1 + 1) c' (L ++ [x]) := owns_far7 ho9 (by omega) _ _
            have HFin := hidOf (show SeR w N (n + 1) seen last x true [] [3] Aw (L ++ [x]) g' c' _ from ⟨hV10, hO10, hap', by rw [List.length_append, HS.out.len]; rfl, getD_snoc HS.out.len, hx0.1, hx0.2, by omega, by omega, by have h := HUp.out; exact h⟩)
            obtain ⟨_, y0, y1, y2, y3, y4, y5, y6, yf⟩ := id hBx9
            obtain ⟨_, z0, z1, z2, z3, z4, z5, z6, zf⟩ := id hV9.box
            have Hr := hidOf hr
            clear hr ho9 hg9 hg9' hgd hV9 hOw hap hOw9 hBx9 hV10 hap' hO10 hH7 hH HUr t0 t1 t2 t3 t4 t5 t6
            go_wp2_with (first | (at_builtin; refine wpList_append_run rfl _ _ 27 rfl _ _ _ rfl rfl Hr.out ?_) | fail)
            go_roundw
            case rel => exact ⟨n + 1, seen, j + 1, last, x, true, [], [3], Aw, L ++ [x], g', c', rfl, rfl, rfl, rfl, by go_num, by omega, by omega, HFin.out⟩
            case measure => simp [intOf]; omega
      · have hev' : (f j % 2 == 0) = false := by simp [hev]
        clear hev
        have hmd := HS.out.md
        cases hmd using SeesM.elim with
        | idle =>
          by_cases hsn : (seen : Int) < (n : Int)
          · have HW := hidOf (show Calls Try.prog 9 #[.agg #[.int .i64 1, .int .i64 v, .string ⟨#[]⟩, .int .i64 (n : Int), .bool false, .slice A.a A.n A.c, .slice A.a' A.n' A.c'], .int .i64 3, .int .i64 (seen : Int)] wr fun e w' => COutP wr (cS v n [] []) [.int .i64 0] e w' by
              have h := implWatch_any A (cS v n [] []) 3 seen wr HIn.out (by omega) (by omega) HWf.out wf3 (by simp [Lit.wf, IntKind.min, IntKind.max, IntKind.signed, IntKind.bits]; omega)
              rw [watch_now hsn hvv.1 hvv.2 (by omega) (by omega)] at h
              exact h)
            have HLk := hidOf (fun (A' : Na) (u : World) (hu : CIn u A' (cS v n [] [])) (h1 : A'.n ≤ 2097152) (h2 : A'.n' ≤ 2097152) => show Calls Try.prog 10 #[.agg #[.int .i64 1, .int .i64 v, .string ⟨#[]⟩, .int .i64 (n : Int), .bool false, .slice A'.a A'.n A'.c, .slice A'.a' A'.n' A'.c']] u fun e w' => e = .returned (.tuple #[.agg #[.int .i64 1, .int .i64 v, .string ⟨#[]⟩], .int .i64 (n : Int), .int .i64 0]) ∧ Below u.heap.size u w' by
              have h := implLook_any A' (cS v n [] []) u hu h1 h2 HWf.out
              unfold LookP at h
              rw [look_cs (SeesM.idle (n := n) (seen := seen)) hvv.1 hvv.2 (by omega) (by omega)] at h
              exact h)
            have HSn := hidOf hsn
            have d1 : decide ((n : Int) ≤ (seen : Int)) = false := by simp; omega
            have d1n : decide (n ≤ seen) = false := by simp; omega
            clear hsn
            go_wp2_with fail
            refine HW.out.mono ?_
            rintro e w5 ⟨A5, rfl, hO5, hc5, hb5⟩
            simp only [cS]
            generalize hW6 : w5.alloc (.cells #[.int .i64 1, .int .i64 v, .string ⟨#[]⟩, .int .i64 (n : Int), .bool false, .slice A5.a A5.n A5.c, .slice A5.a' A5.n' A5.c'] 29) = W6
            have b6 : Below w5.heap.size w5 W6 := by subst hW6; exact bl_alloc (Below.refl _ _) _
            have x6 : CBox w5.heap.size A5 (cS v n [] []) W6 := by subst hW6; exact CBox.new w5 A5 (cS v n [] []) _
            have b6' := b6
            have hH6 := hH.keep (bl_trans hb5 b6)
            obtain ⟨_, q0, q1, q2, q3, q4, q5, q6, _⟩ := id x6
            have hgN := (owns_parts HS.out.row).2.1
            have hgl2 := (owns_parts HS.out.row).2.2.1
            have hNw : N + 1 ≤ wr.heap.size := HS.out.cv.box.lt
            have hV7 := hH6.cv.store (y := cS v n [] []) ((hO5.keep b6').mono hNw) hc5
            have hO7 : Owns (N + 1) (stC W6 N (cS v n [] []) A5) g (n + 1) cap L := owns_far7 hH6.row (by omega) _ _
            have hap := hO5.apt hgl2
            obtain ⟨_, z0, z1, z2, z3, z4, z5, z6, zf⟩ := id hH6.cv.box
            obtain ⟨_, v0, v1, v2, v3, v4, v5, v6, vf⟩ := id hV7.box
            have HFin := hidOf (show SeR w N n n (n : Int) v false [] [] A5 L g cap (stC W6 N (cS v n [] []) A5) from ⟨hV7, hO7, hap, HS.out.len, HS.out.at', hvv.1, hvv.2, by omega, by omega, .idle⟩)
            have hs5 : A5.n ≤ 1 ∧ A5.n' ≤ 1 := by
              have h1 := hO5.one.ints.len
              have h2 := hO5.two.ints.len
              simp only [cS, List.length_nil] at h1 h2
              omega
            have HI7 := hidOf hV7.own.nin
            have HO7 := hidOf hO7
            clear p0 p1 p2 p3 p4 p5 p6 hO5 hc5 b6 b6' x6 hH6 hV7 hO7 hap hgN hgl2 hNw HW hb5
            go_wp2_with fail
            refine (HLk.out A5 _ HI7.out (by omega) (by omega)).mono ?_
            rintro e w8 ⟨rfl, hb8⟩
            go_upto_region 29 with fail
            generalize hW9 : w8.alloc (.cells #[.int .i64 1, .int .i64 v, .string ⟨#[]⟩] 25) = W9
            have b9 : Below w8.heap.size w8 W9 := by subst hW9; exact bl_alloc (Below.refl _ _) _
            have x9 : Box3 w8.heap.size (.int .i64 1) (.int .i64 v) (.string ⟨#[]⟩) W9 := by subst hW9; exact Box3.new w8 _ _ _ _
            have hF9 := hidOf (HFin.out.keep (bl_trans hb8 b9))
            have hcell := (owns_parts hF9.out.row).2.2.2.2.2
            have hce := ints_at hcell.ints (show n < n + 1 by omega)
            rw [HS.out.at'] at hce
            obtain ⟨_, y0, y1, y2, yf⟩ := id x9
            clear z0 z1 z2 z3 z4 z5 z6 zf v0 v1 v2 v3 v4 v5 v6 vf q0 q1 q2 q3 q4 q5 q6 hb8 b9 x9 hcell HFin HI7 HO7 hW6 hW9
            go_quiet (fail)
            go_wp2_with fail
            go_roundw
            case rel => exact ⟨n, n, j + 1, n, v, false, [], [], A5, L, g, cap, rfl, rfl, rfl, rfl, by go_num, by omega, by omega, hF9.out.keep (bl_drewN (Below.refl _ _) _)⟩
            case measure => simp [intOf]; omega
          · have HW := hidOf (show Calls Try.prog 9 #[.agg #[.int .i64 1, .int .i64 v, .string ⟨#[]⟩, .int .i64 (n : Int), .bool false, .slice A.a A.n A.c, .slice A.a' A.n' A.c'], .int .i64 3, .int .i64 (seen : Int)] wr fun e w' => COutP wr (cS v n [3] []) [.int .i64 4] e w' by
              have h := implWatch_any A (cS v n [] []) 3 seen wr HIn.out (by omega) (by omega) HWf.out wf3 (by simp [Lit.wf, IntKind.min, IntKind.max, IntKind.signed, IntKind.bits]; omega)
              rw [watch_wait hsn hvv.1 hvv.2 (by omega) (by omega)] at h
              exact h)
            have hns : n = seen := by omega
            have HNs := hidOf hns
            clear hsn hns
            go_wp2_with fail
            refine HW.out.mono ?_
            rintro e w5 ⟨A5, rfl, hO5, hc5, hb5⟩
            simp only [cS]
            generalize hW6 : w5.alloc (.cells #[.int .i64 1, .int .i64 v, .string ⟨#[]⟩, .int .i64 (n : Int), .bool false, .slice A5.a A5.n A5.c, .slice A5.a' A5.n' A5.c'] 29) = W6
            have b6 : Below w5.heap.size w5 W6 := by subst hW6; exact bl_alloc (Below.refl _ _) _
            have x6 : CBox w5.heap.size A5 (cS v n [3] []) W6 := by subst hW6; exact CBox.new w5 A5 (cS v n [3] []) _
            have b6' := b6
            have hH6 := hH.keep (bl_trans hb5 b6)
            obtain ⟨_, q0, q1, q2, q3, q4, q5, q6, _⟩ := id x6
            have hgN := (owns_parts HS.out.row).2.1
            have hgl2 := (owns_parts HS.out.row).2.2.1
            have hNw : N + 1 ≤ wr.heap.size := HS.out.cv.box.lt
            have hV7 := hH6.cv.store (y := cS v n [3] []) ((hO5.keep b6').mono hNw) hc5
            have hO7 : Owns (N + 1) (stC W6 N (cS v n [3] []) A5) g (n + 1) cap L := owns_far7 hH6.row (by omega) _ _
            have hap := hO5.apt hgl2
            obtain ⟨_, z0, z1, z2, z3, z4, z5, z6, zf⟩ := id hH6.cv.box
            obtain ⟨_, v0, v1, v2, v3, v4, v5, v6, vf⟩ := id hV7.box
            have HFin := hidOf (show SeR w N n seen last v true [3] [] A5 L g cap (stC W6 N (cS v n [3] []) A5) from ⟨hV7, hO7, hap, HS.out.len, HS.out.at', hvv.1, hvv.2, by omega, by omega, .line (by have := HNs.out; omega)⟩)
            clear p0 p1 p2 p3 p4 p5 p6 hO5 hc5 b6 b6' x6 hH6 hV7 hO7 hap hgN hgl2 hNw HW hb5
            go_wp2_with fail
            go_roundw
            case rel => exact ⟨n, seen, j + 1, last, v, true, [3], [], A5, L, g, cap, rfl, rfl, rfl, rfl, by go_num, by omega, by omega, HFin.out⟩
            case measure => simp [intOf]; omega
        | line hmm =>
          have HSe := hidOf (show Calls Try.prog 8 #[.agg #[.int .i64 1, .int .i64 v, .string ⟨#[]⟩, .int .i64 (n : Int), .bool false, .slice A.a A.n A.c, .slice A.a' A.n' A.c'], .int .i64 3] wr fun e w' => COutP wr (cS v n [3] []) [.agg #[.int .i64 0, .int .i64 0, .string ⟨#[]⟩], .int .i64 0, .int .i64 4] e w' by
            have h := implSeen_any A (cS v n [3] []) 3 wr HIn.out (by omega) (by omega) HWf.out wf3
            rw [seen_line hmm hvv.1 hvv.2 (by omega) (by omega)] at h
            exact h)
          have HMm := hidOf hmm
          have d2 : ¬ (seen : Int) < (n : Int) := by omega
          clear hmm
          go_wp2_with fail
          refine HSe.out.mono ?_
          rintro e w5 ⟨A5, rfl, hO5, hc5, hb5⟩
          simp only [cS]
          go_upto_region 17 with fail
          generalize hW6 : w5.alloc (.cells #[.int .i64 1, .int .i64 v, .string ⟨#[]⟩, .int .i64 (n : Int), .bool false, .slice A5.a A5.n A5.c, .slice A5.a' A5.n' A5.c'] 29) = W6
          have b6 : Below w5.heap.size w5 W6 := by subst hW6; exact bl_alloc (Below.refl _ _) _
          have x6 : CBox w5.heap.size A5 (cS v n [3] []) W6 := by subst hW6; exact CBox.new w5 A5 (cS v n [3] []) _
          generalize hW7 : W6.alloc (.cells #[.int .i64 0, .int .i64 0, .string ⟨#[]⟩] 25) = W7
          have b7 : Below W6.heap.size W6 W7 := by subst hW7; exact bl_alloc (Below.refl _ _) _
          have x7 : Box3 W6.heap.size (.int .i64 0) (.int .i64 0) (.string ⟨#[]⟩) W7 := by subst hW7; exact Box3.new W6 _ _ _ _
          have hH7 := hH.keep (bl_trans hb5 (bl_trans b6 b7))
          obtain ⟨t0, t1, t2, t3, t4, t5, t6, _, _⟩ := id hH7
          have HB7 := hidOf (bl_trans hb5 (bl_trans b6 b7))
          clear p0 p1 p2 p3 p4 p5 p6 hO5 hc5 hH7 HSe hb5 b6 b7 x6 x7 hW6 hW7
          go_wp2_with fail
          go_roundw
          case rel => exact ⟨n, seen, j + 1, last, v, true, [3], [], A, L, g, cap, rfl, rfl, rfl, rfl, by go_num, by omega, by omega, HS.out.keep HB7.out⟩
          case measure => simp [intOf]; omega
        | told hmm =>
          have HSe := hidOf (show Calls Try.prog 8 #[.agg #[.int .i64 1, .int .i64 v, .string ⟨#[]⟩, .int .i64 (n : Int), .bool false, .slice A.a A.n A.c, .slice A.a' A.n' A.c'], .int .i64 3] wr fun e w' => COutP wr (cS v n [] []) [.agg #[.int .i64 1, .int .i64 v, .string ⟨#[]⟩], .int .i64 (n : Int), .int .i64 0] e w' by
            have h := implSeen_any A (cS v n [] [3]) 3 wr HIn.out (by omega) (by omega) HWf.out wf3
            rw [seen_told hmm hvv.1 hvv.2 (by omega) (by omega)] at h
            exact h)
          have HMm := hidOf hmm
          have d1 : decide ((n : Int) ≤ (seen : Int)) = false := by simp; omega
          have d1n : decide (n ≤ seen) = false := by simp; omega
          have d4 : decide ((n : Int) ≤ last) = false := by simp; omega
          obtain ⟨m, hm⟩ : ∃ m : Nat, n + 1 = m := ⟨_, rfl⟩
          have d3 : decide ((m : Int) ≤ (n : Int)) = false := by simp; omega
          have d3n : decide (m ≤ n) = false := by simp; omega
          have hnm : (n : Int) < (m : Int) := by omega
          have hnm' : n < m := by omega
          have HM := hidOf hm
          rw [hm]
          clear hmm hm
          go_wp2_with fail
          refine HSe.out.mono ?_
          rintro e w5 ⟨A5, rfl, hO5, hc5, hb5⟩
          simp only [cS]
          go_upto_region 17 with fail
          generalize hW6 : w5.alloc (.cells #[.int .i64 1, .int .i64 v, .string ⟨#[]⟩, .int .i64 (n : Int), .bool false, .slice A5.a A5.n A5.c, .slice A5.a' A5.n' A5.c'] 29) = W6
          have b6 : Below w5.heap.size w5 W6 := by subst hW6; exact bl_alloc (Below.refl _ _) _
          have x6 : CBox w5.heap.size A5 (cS v n [] []) W6 := by subst hW6; exact CBox.new w5 A5 (cS v n [] []) _
          generalize hW7 : W6.alloc (.cells #[.int .i64 1, .int .i64 v, .string ⟨#[]⟩] 25) = W7
          have b7 : Below W6.heap.size W6 W7 := by subst hW7; exact bl_alloc (Below.refl _ _) _
          have x7 : Box3 W6.heap.size (.int .i64 1) (.int .i64 v) (.string ⟨#[]⟩) W7 := by subst hW7; exact Box3.new W6 _ _ _ _
          have hs6 : W6.heap.size = w5.heap.size + 1 := by subst hW6; simp
          rw [hs6] at x7
          have HS6 := hidOf hs6
          clear hs6
          have b6' := bl_trans b6 b7
          have x6' := x6.keep b7
          have hH6 := hH.keep (bl_trans hb5 b6')
          have hgN := (owns_parts HS.out.row).2.1
          have hgl2 := (owns_parts HS.out.row).2.2.1
          have hNw : N + 1 ≤ wr.heap.size := HS.out.cv.box.lt
          have hap := hO5.apt hgl2
          obtain ⟨_, z0, z1, z2, z3, z4, z5, z6, zf⟩ := id hH6.cv.box
          have HFin := hidOf (fun k : Nat => show SeR w N n n (n : Int) v false [] [] A5 L g cap (stC (W7.drewN k) N (cS v n [] []) A5) from ⟨(hH6.cv.keep (bl_drewN (Below.refl _ _) k)).store (y := cS v n [] []) ((hO5.keep (bl_drewN b6' k)).mono hNw) hc5, owns_far7 (owns_keep hH6.row (bl_drewN (Below.refl _ _) k)) (by omega) _ _, hap, HS.out.len, HS.out.at', hvv.1, hvv.2, by omega, by omega, .idle⟩)
          obtain ⟨_, q0, q1, q2, q3, q4, q5, q6, _⟩ := id x6'
          obtain ⟨_, y0, y1, y2, yf⟩ := id x7
          have hcell := (owns_parts hH6.row).2.2.2.2.2
          have hce := ints_at hcell.ints (show n < n + 1 by omega)
          rw [HS.out.at'] at hce
          clear p0 p1 p2 p3 p4 p5 p6 hO5 hc5 b6 b7 b6' x6 x6' x7 hH6 hap hgN hgl2 hNw HSe hb5 hcell hW6 hW7
          go_upto_region 20 with fail
          go_quiet (fail)
          go_wp2_with fail
          go_roundw
          case rel => exact ⟨n, n, j + 1, n, v, false, [], [], A5, L, g, cap, by rw [HM.out], rfl, rfl, rfl, by go_num, by omega, by omega, HFin.out _⟩
          case measure => simp [intOf]; omega
    · obtain rfl : j = 30 := by omega
      have HOk := hidOf (show Calls Try.prog 11 #[.agg #[.int .i64 1, .int .i64 v, .string ⟨#[]⟩, .int .i64 (n : Int), .bool false, .slice A.a A.n A.c, .slice A.a' A.n' A.c']] wr fun e w' => e = .returned (.bool true) ∧ Below wr.heap.size wr w' by
        have h := specCellOk_any A (cS v n ln gs) wr HIn.out (by omega) (by omega) hcok
        rw [okc HS.out.md hvv.1 hvv.2 (by omega) (by omega)] at h
        exact h)
      have hcl := HS.out.cv.own.one.ints.len
      have hmd := HS.out.md
      simp only [cS] at hcl
      cases hmd using SeesM.elim with
      | idle =>
        clear hcl
        go_wp2_with fail
        refine HOk.out.mono ?_
        rintro e w5 ⟨rfl, hb5⟩
        have HBb := hidOf (bl_trans HBel.out hb5)
        clear hb5
        go_wp2_with fail
        go_ret
        exact ⟨rfl, HBb.out⟩
      | line hmm =>
        have hn1 : ((A.n : Int) == 1) = true := by rw [← hcl]; decide
        have hns : ((n : Int) == (seen : Int)) = true := by simpa using hmm
        clear hcl hmm
        go_wp2_with fail
        go_ret
        exact ⟨rbool (by first | rfl | exact hns | simp), HBel.out⟩
      | told hmm =>
        have hn1 : ((A.n : Int) == 1) = false := by rw [← hcl]; decide
        have HMm := hidOf hmm
        clear hcl hmm
        go_wp2_with fail
        refine HOk.out.mono ?_
        rintro e w5 ⟨rfl, hb5⟩
        have HBb := hidOf (bl_trans HBel.out hb5)
        clear hb5
        go_wp2_with fail
        go_ret
        exact ⟨rfl, HBb.out⟩
end Go.Proofs.Ytbbhaekmjnincaa
