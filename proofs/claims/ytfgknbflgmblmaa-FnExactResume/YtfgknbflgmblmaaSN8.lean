/-
  Walks of the specification's notifications: a grant is taken out.
-/
import Derived.Deep.RegionLaw
import Derived.Deep.RegionHeld3
import Derived.Test.YtfgknbflgmblmaaSN4b
namespace Go.Proofs.Ytfgknbflgmblmaa
open Go.RowKit Pl Il

/-- While grants are copied: the argument's variable, the answer's, the list. -/
structure DropS (w : World) (A : Na) (x : Nt) (j : Nat) (l : List (Int × Bool)) (a : Option Addr) (m c : Nat) (u : World) : Prop where
  box0 : NBox w.heap.size A x u
  box1 : NBox (w.heap.size + 1) Na.zero Nt.zero u
  below : Below w.heap.size w u
  sz : w.heap.size + 2 ≤ u.heap.size
  row : u.ownsRow (w.heap.size + 2) 44 2 (.slice a m c) m (gflat l)
  len : m ≤ j
theorem DropS.keep {w : World} {A : Na} {x : Nt} {j : Nat} {l : List (Int × Bool)} {a : Option Addr} {m c : Nat} {u u' : World} (h : DropS w A x j l a m c u) (hb : Below u.heap.size u u') : DropS w A x j l a m c u' :=
  ⟨h.box0.keep hb, h.box1.keep hb, bl_trans h.below hb, Nat.le_trans h.sz hb.size, ownsRow_keep h.row hb, h.len⟩
theorem DropS.push {w : World} {A : Na} {x : Nt} {j : Nat} {l : List (Int × Bool)} {a : Option Addr} {m c g' c' : Nat} {u w' : World} {y : Int × Bool} (h : DropS w A x j l a m c u) (ho : w'.ownsRow (w.heap.size + 2) 44 2 (.slice (some ⟨g', 0, none⟩) (m + 1) c') (m + 1) (gflat (l ++ [y]))) (hg : u.grownBy w' (Value.slice a m c).ownBlock) : DropS w A x (j + 1) (l ++ [y]) (some ⟨g', 0, none⟩) (m + 1) c' w' :=
  ⟨h.box0.grownO hg (fun e => by have := (h.row.lt _ e).1; omega), h.box1.grownO hg (fun e => by have := (h.row.lt _ e).1; omega), h.below.grown hg (by have := h.sz; omega) (fun q e => by have := (h.row.lt q e).1; omega), Nat.le_trans h.sz hg.size, ho, by have := h.len; omega⟩
theorem DropS.fin {w : World} {A : Na} {x : Nt} {B j : Nat} {l : List (Int × Bool)} {a : Option Addr} {m c : Nat} {u : World} (h : DropS w A x j l a m c u) (hR : NRow B w A x) (hB : B ≤ w.heap.size) (y0 y1 y2 y3 y4 y5 : Value) :
    NRow B (((((((u.setCell ⟨w.heap.size, 2, none⟩ (.slice a m c)).setCell ⟨w.heap.size + 1, 0, none⟩ y0).setCell ⟨w.heap.size + 1, 1, none⟩ y1).setCell ⟨w.heap.size + 1, 2, none⟩ y2).setCell ⟨w.heap.size + 1, 3, none⟩ y3).setCell ⟨w.heap.size + 1, 4, none⟩ y4).setCell ⟨w.heap.size + 1, 5, none⟩ y5) ⟨A.a, A.n, A.c, a, m, c⟩ { x with gs := l } ∧
    Below w.heap.size w (((((((u.setCell ⟨w.heap.size, 2, none⟩ (.slice a m c)).setCell ⟨w.heap.size + 1, 0, none⟩ y0).setCell ⟨w.heap.size + 1, 1, none⟩ y1).setCell ⟨w.heap.size + 1, 2, none⟩ y2).setCell ⟨w.heap.size + 1, 3, none⟩ y3).setCell ⟨w.heap.size + 1, 4, none⟩ y4).setCell ⟨w.heap.size + 1, 5, none⟩ y5) := by
  have h1 : (Value.slice A.a A.n A.c).ownBlock ≠ some w.heap.size := fun e => by have := (hR.one.lt _ e).2; omega
  have h2 : (Value.slice a m c).ownBlock ≠ some w.heap.size := fun e => by have := (h.row.lt _ e).1; omega
  have h3 : (Value.slice A.a A.n A.c).ownBlock ≠ some (w.heap.size + 1) := fun e => by have := (hR.one.lt _ e).2; omega
  have h4 : (Value.slice a m c).ownBlock ≠ some (w.heap.size + 1) := fun e => by have := (h.row.lt _ e).1; omega
  have hr : NRow B u ⟨A.a, A.n, A.c, a, m, c⟩ { x with gs := l } := ⟨ownsRow_keep hR.one h.below, own_mono1 h.row (by omega)⟩
  have hf := (one_end (M := w.heap.size + 1) (w := w) (NRow.set hr w.heap.size 2 h1 h2 (.slice a m c)) h3 h4 (by omega) ((bl_set1' h.below w.heap.size 2 (Nat.le_refl _) (.slice a m c)).mono hB) y0 y1 y2 y3 y4 y5).1
  exact ⟨hf, bl_set6' (bl_set1' h.below w.heap.size 2 (Nat.le_refl _) (.slice a m c)) (w.heap.size + 1) (by omega) _ _ _ _ _ _⟩
/-- Those ahead of i, without the one at a place. -/
def dropTo (gs : List (Int × Bool)) (p : Int) : Nat → List (Int × Bool)
  | 0 => []
  | i + 1 => dropTo gs p i ++ (if (i : Int) = p then [] else [gg gs i])
theorem dropTo_less {gs : List (Int × Bool)} (hd : (whosL gs).Nodup) {who : Int} {p : Int} (hp : placeL (whosL gs) who = p) : ∀ i, i ≤ gs.length → dropTo gs p i = lessG (gs.take i) who
  | 0, _ => by simp [dropTo, lessG]
  | i + 1, h => by
    have ih := dropTo_less hd hp i (by omega)
    rw [dropTo, ih, take_gg (by omega), less_snoc]
    congr 1
    by_cases he : (gg gs i).1 = who
    · have h1 := (place_at hd (by omega : i < gs.length)).1 he
      rw [if_pos (by rw [← h1, hp]), if_pos (by simp [he])]
    · have h1 : ¬ placeL (whosL gs) who = (i : Int) := fun e => he ((place_at hd (by omega : i < gs.length)).2 e)
      rw [if_neg (by rw [← hp]; exact fun e => h1 e.symm), if_neg (by simp [he])]
theorem dropTo_len (gs : List (Int × Bool)) (p : Int) : ∀ i, (dropTo gs p i).length ≤ i
  | 0 => by simp [dropTo]
  | i + 1 => by
    have := dropTo_len gs p i
    simp only [dropTo, List.length_append]
    split <;> simp <;> omega
set_option maxRecDepth 100000 in
set_option maxHeartbeats 2000000 in
theorem l5Drop_any (B : Nat) (A : Na) (x : Nt) (p : Int) (w : World) (hR : NRow B w A x) (hB : B ≤ w.heap.size) (hn' : A.n' ≤ 2097152) :
    Calls Try.prog 49 #[.agg #[.bool x.pm, .slice A.a A.n A.c, .slice A.a' A.n' A.c', .int .i64 x.on, .int .i64 x.sp, .int .i64 x.tk], .int .i64 p] w fun e w' => ∃ a' m c', e = .returned (.agg #[.bool x.pm, .slice A.a A.n A.c, .slice a' m c', .int .i64 x.on, .int .i64 x.sp, .int .i64 x.tk]) ∧ NRow B w' ⟨A.a, A.n, A.c, a', m, c'⟩ { x with gs := dropTo x.gs p x.gs.length } ∧ Below w.heap.size w w' := by
  have hL := hR.own.two.gr.len
  have hG := hR.own.two.gr
  generalize hW0 : w.alloc (.cells #[.bool x.pm, .slice A.a A.n A.c, .slice A.a' A.n' A.c', .int .i64 x.on, .int .i64 x.sp, .int .i64 x.tk] 27) = W0
  generalize hW1 : W0.alloc (.cells #[.bool false, .slice none 0 0, .slice none 0 0, .int .i64 0, .int .i64 0, .int .i64 0] 27) = W1
  have b0 : Below w.heap.size w W0 := by subst hW0; exact bl_alloc (Below.refl _ _) _
  have b1 : Below w.heap.size w W1 := by subst hW1; exact bl_alloc b0 _
  have s0 : W0.heap.size = w.heap.size + 1 := by subst hW0; simp
  have s1 : W1.heap.size = w.heap.size + 2 := by subst hW1; simp [s0]
  have x0 : NBox w.heap.size A x W1 := by subst hW1 hW0; exact (NBox.new w A x _).alloc _
  have x1 : NBox (w.heap.size + 1) Na.zero Nt.zero W1 := by subst hW1; rw [← s0]; exact NBox.newZ W0 _
  have hDS : DropS w A x 0 [] (some ⟨W1.heap.size, 0, none⟩) 0 0 (W1.alloc (.cells #[] 44)) := by
    have bE : Below W1.heap.size W1 (W1.alloc (.cells #[] 44)) := bl_alloc (Below.refl _ _) _
    exact ⟨x0.keep bE, x1.keep bE, bl_trans b1 bE, by have := bE.size; omega, own_mono1 (ownsG_empty W1) (by omega), by simp⟩
  have HD := hidOf hDS
  have HR := hidOf hR
  have HG := hidOf hG
  have HL := hidOf hL
  clear hR hG hL x0 x1 b0 b1 s0 hDS
  subst hW1 hW0
  have S1 := hidOf s1
  clear s1
  go_enter Try.func49, Try.ntmps49
  go_wp2_with fail
  go_loopw [5, 6] (fun l i wr => ∃ (j : Nat) (a : Option Addr) (m c : Nat), j ≤ A.n' ∧ i = .int .i64 j ∧ l = .slice a m c ∧ DropS w A x j (dropTo x.gs p j) a m c wr) (fun _ i _ => A.n' - (intOf i).toNat)
  case atStart => exact ⟨0, _, 0, 0, Nat.zero_le _, rfl, rfl, by have h := HD.out; rw [S1.out] at h; exact h⟩
  case round =>
    rename_i wr
    obtain ⟨j, a, m, c, hj, rfl, rfl, hS⟩ := hrel
    clear HD
    obtain ⟨_, p0, p1, p2, p3, p4, p5, pf⟩ := id hS.box0
    by_cases hlt : j < A.n'
    · obtain ⟨_, h' | ⟨b, off, ea, hb, hcell⟩⟩ := (HG.out.keep hS.below)
      · omega
      have hc := hcell j hlt
      have hjl : j < x.gs.length := by rw [HL.out]; exact hlt
      by_cases hp : (j : Int) = p
      · have hp' : ((j : Int) != p) = false := by simp [hp]
        have hN : dropTo x.gs p (j + 1) = dropTo x.gs p j := by rw [dropTo, if_pos hp, List.append_nil]
        have HN : Hid (DropS w A x (j + 1) (dropTo x.gs p (j + 1)) a m c wr) := by rw [hN]; exact ⟨hS.box0, hS.box1, hS.below, hS.sz, hS.row, by have := hS.len; omega⟩
        have HP := hidOf hp
        clear hp hS hN hcell hc
        go_wp2
        go_roundw
        case rel => exact ⟨j + 1, a, m, c, by omega, by go_num, rfl, HN.out⟩
        case measure => simp [intOf]; omega
      · have hp' : ((j : Int) != p) = true := by simp [hp]
        have hN : dropTo x.gs p (j + 1) = dropTo x.gs p j ++ [gg x.gs j] := by rw [dropTo, if_neg hp]
        generalize hy : gg x.gs j = y at hc hN
        obtain ⟨y1, y2⟩ := y
        obtain ⟨hc1, hc2⟩ := hc
        simp only at hc1 hc2
        obtain ⟨g', c', w', hr, ho', hg', hl'⟩ := append_gr2 (w.heap.size + 2) m _ _ y1 y2 wr hS.row hS.sz (by have := hS.len; omega)
        have HN : Hid (DropS w A x (j + 1) (dropTo x.gs p (j + 1)) (some ⟨g', 0, none⟩) (m + 1) c' w') := by rw [hN]; exact hS.push ho' hg'
        have Hr := hidOf hr
        have hji : (0 : Int) ≤ (j : Int) ∧ (j : Int) < (A.n' : Int) := by omega
        rw [ea] at p2
        have Ea := hidOf ea
        clear hp hS hN hcell hr ho' hg' hl' hy ea
        go_wp2_with (at_builtin; refine wpList_append_run rfl _ _ 25 rfl _ _ _ rfl rfl Hr.out ?_)
        go_roundw
        case rel => exact ⟨j + 1, some ⟨g', 0, none⟩, m + 1, c', by omega, by go_num, rfl, HN.out⟩
        case measure => simp [intOf]; omega
    · obtain rfl : j = A.n' := by omega
      have hF := hS.fin HR.out hB (.bool x.pm) (.slice A.a A.n A.c) (.slice a m c) (.int .i64 x.on) (.int .i64 x.sp) (.int .i64 x.tk)
      rw [← HL.out] at hF
      obtain ⟨_, r0, r1, r2, r3, r4, r5, rf⟩ := id hS.box1
      obtain ⟨_, v0, v1, v2, v3, v4, v5, vf⟩ := hS.box0.set2 (a := a) (n := m) (c := c)
      obtain ⟨_, q0, q1, q2, q3, q4, q5, qf⟩ := hS.box1.far w.heap.size 2 (by omega) (.slice a m c)
      simp only at v0 v1 v2 v3 v4 v5
      have HF := hidOf hF
      clear hF hS
      go_wp2
      refine bodyPost_ret (v := .agg #[.bool x.pm, .slice A.a A.n A.c, .slice a m c, .int .i64 x.on, .int .i64 x.sp, .int .i64 x.tk]) (by simp [results, Try.results49, go_sem, q0, q1, q2, q3, q4, q5]) rfl ?_
      exact ⟨a, m, c, rfl, HF.out⟩
end Go.Proofs.Ytfgknbflgmblmaa
