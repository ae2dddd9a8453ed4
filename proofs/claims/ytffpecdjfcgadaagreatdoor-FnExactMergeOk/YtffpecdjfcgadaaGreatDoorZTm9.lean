/-
  Walks of the laws' own helpers on subscribers: weighed, made anew, compared.
-/
import Derived.Test.YtffpecdjfcgadaaGreatDoorZTm8
namespace Go.Proofs.YtffpecdjfcgadaaGreatDoor
open Go.RowKit Pl Il

theorem szSub_any (x : Sa) (l : Int) (w : World) (hI : TmAt w x.a x.n x.s.fl) (hn : x.n ≤ 9223372036854775807) (l0 : 0 ≤ l) (l1 : l ≤ 1048576) :
    Calls Tryz.prog 70 #[.agg #[.int .i64 x.s.id, .int .i64 x.s.st, .int .i64 x.s.cu, .int .i64 x.s.gt, .int .i64 x.s.lo, .int .i64 x.s.pa, .slice x.a x.n x.c], .int .i64 l] w fun e w' => SzF x.n e ∧ Below w.heap.size w w' := by
  obtain ⟨⟨i0, i1, i2, i3, i4, i5, fl⟩, a, n, c⟩ := x
  simp only at hI hn ⊢
  have HI := hidOf (hI.keep (bl_alloc (Below.refl w.heap.size w) (.cells #[.int .i64 i0, .int .i64 i1, .int .i64 i2, .int .i64 i3, .int .i64 i4, .int .i64 i5, .slice a n c] 122)))
  clear hI
  go_enter Tryz.func70, Tryz.ntmps70
  go_wp2_with fail
  refine (szTermS_any a n c fl l _ HI.out hn l0 l1).mono ?_
  rintro e w1 ⟨⟨k, rfl, hk⟩, hb1⟩
  have hB := bl_trans (bl_alloc (Below.refl w.heap.size w) (.cells #[.int .i64 i0, .int .i64 i1, .int .i64 i2, .int .i64 i3, .int .i64 i4, .int .i64 i5, .slice a n c] 122)) hb1
  clear hb1
  rcases hk with hk | ⟨k0, k1, k2⟩
  · go_wp2
    go_ret
    exact ⟨⟨_, rfl, .inl (by omega)⟩, hB⟩
  · have hk' : ¬ k < 0 := by omega
    go_wp2
    go_ret
    exact ⟨⟨_, rfl, .inr ⟨k0, k1, k2⟩⟩, hB⟩
/-- Too great, or not: the list, and each filter. -/
def SzS (n : Nat) (xs : List Sa) (e : Ending) : Prop := ∃ k : Int, e = .returned (.int .i64 k) ∧ (k < 0 ∨ 0 ≤ k ∧ k ≤ 1048576 ∧ n ≤ 1048576 ∧ ∀ x, x ∈ xs → x.n ≤ 1048576)
set_option maxHeartbeats 1000000 in
theorem szSubS_any (a : Option Addr) (n c : Nat) (xs : List Sa) (l : Int) (w : World) (hI : SubAt w a n xs) (hn : n ≤ 9223372036854775807) (hf : ∀ x, x ∈ xs → x.n ≤ 9223372036854775807) (l0 : 0 ≤ l) (l1 : l ≤ 1048576) :
    Calls Tryz.prog 44 #[.slice a n c, .int .i64 l] w fun e w' => SzS n xs e ∧ Below w.heap.size w w' := by
  by_cases h : l < (n : Int)
  · have h' : l - (n : Int) < 0 := by omega
    clear hI
    go_enter Tryz.func44, Tryz.ntmps44
    go_wp2
    go_ret
    exact ⟨⟨_, rfl, .inl (by omega)⟩, Below.refl _ _⟩
  · have h' : ¬ l - (n : Int) < 0 := by omega
    have hn2 : n ≤ 1048576 := by omega
    obtain ⟨hlen, hsh, hr⟩ := hI
    have HS := hidOf hsh
    have HL := hidOf hlen
    have HR := hidOf hr
    have HFn := hidOf hf
    clear hsh hlen hr hf
    go_enter Tryz.func44, Tryz.ntmps44
    go_wp2
    go_loopw [1, 5] (fun x i wr => ∃ (k : Nat) (y : Int), k ≤ n ∧ i = .int .i64 k ∧ x = .int .i64 y ∧ 0 ≤ y ∧ y ≤ 1048576 ∧ (∀ j, j < k → (sg xs j).n ≤ 1048576) ∧ Below w.heap.size w wr) (fun _ i _ => n - (intOf i).toNat)
    case atStart => exact ⟨0, _, Nat.zero_le _, rfl, rfl, by omega, by omega, fun j hj => (by omega), Below.refl _ _⟩
    case round =>
      rename_i wr
      obtain ⟨k, y, hk, rfl, rfl, y0, y1, hd, hB⟩ := hrel
      have HD := hidOf hd
      clear hd
      by_cases hlt : k < n
      · obtain hr | ⟨b, off, rfl, hb, hcell⟩ := HR.out
        · omega
        obtain ⟨q0, q1, q2, q3, q4, q5, q6⟩ := (hcell k hlt).below hB hb
        have hmem := sg_mem (l := xs) (k := k) (by rw [HL.out]; exact hlt)
        have HC := hidOf (fun (u : World) (hu : Below w.heap.size w u) => szSub_any (sg xs k) y u ((HS.out _ hmem).keep hu) (HFn.out _ hmem) y0 y1)
        obtain ⟨z, hz⟩ : ∃ z, sg xs k = z := ⟨_, rfl⟩
        rw [hz] at q0 q1 q2 q3 q4 q5 q6 HC
        have HZ := hidOf hz
        have HB := hidOf hB
        clear hz hcell hmem hB
        go_wp2_with fail
        refine ((HC.out _ HB.out)).mono ?_
        rintro e w1 ⟨⟨r, rfl, hr⟩, hb1⟩
        have hB1 := bl_trans HB.out hb1
        clear HC q0 q1 q2 q3 q4 q5 q6 hb1 HB
        rcases hr with hr | ⟨r0, r1, r2⟩
        · go_wp2
          go_ret
          exact ⟨⟨_, rfl, .inl (by omega)⟩, hB1⟩
        · have hr' : ¬ r < 0 := by omega
          go_wp2
          go_roundw
          case rel => exact ⟨k + 1, _, by omega, by go_num, rfl, by omega, by omega, fun j hj => (by
            by_cases e : j = k
            · rw [e, HZ.out]; exact r2
            · exact HD.out j (by omega)), hB1⟩
          case measure => simp [intOf]; omega
      · go_wp2
        go_ret
        refine ⟨⟨_, rfl, .inr ⟨y0, y1, hn2, fun x hx => ?_⟩⟩, hB⟩
        obtain ⟨j, hj, rfl⟩ := List.getElem_of_mem hx
        have := HD.out j (by have := HL.out; omega)
        rwa [sg_eq hj] at this
set_option maxHeartbeats 1000000 in
theorem toSub_any (x : Sa) (w : World) (hI : TmAt w x.a x.n x.s.fl) (hn : x.n ≤ 2097152) :
    Calls Tryz.prog 76 #[.agg #[.int .i64 x.s.id, .int .i64 x.s.st, .int .i64 x.s.cu, .int .i64 x.s.gt, .int .i64 x.s.lo, .int .i64 x.s.pa, .slice x.a x.n x.c]] w fun e w' => ∃ g, e = .returned (.agg #[.int .i64 x.s.id, .int .i64 x.s.st, .int .i64 x.s.cu, .int .i64 x.s.gt, .int .i64 x.s.lo, .int .i64 x.s.pa, .slice (some ⟨g, 0, none⟩) x.n x.n]) ∧ w.heap.size ≤ g ∧ OwnF w.heap.size w' (some ⟨g, 0, none⟩) x.n x.s.fl ∧ Below w.heap.size w w' := by
  obtain ⟨⟨i0, i1, i2, i3, i4, i5, fl⟩, a, n, c⟩ := x
  simp only at hI hn ⊢
  obtain ⟨W0, hW0⟩ : ∃ W, W = ((w.alloc (.cells #[.int .i64 i0, .int .i64 i1, .int .i64 i2, .int .i64 i3, .int .i64 i4, .int .i64 i5, .slice a n c] 122)).alloc (.cells #[.int .i64 0, .int .i64 0, .int .i64 0, .int .i64 0, .int .i64 0, .int .i64 0, .slice none 0 0] 90)).alloc (.cells #[.int .i64 i0, .int .i64 i1, .int .i64 i2, .int .i64 i3, .int .i64 i4, .int .i64 i5, .slice none 0 0] 90) := ⟨_, rfl⟩
  have b0 : Below w.heap.size w W0 := by rw [hW0]; exact bl_alloc (bl_alloc (bl_alloc (Below.refl _ _) _) _) _
  have s0 : W0.heap.size = w.heap.size + 3 := by rw [hW0]; simp
  have X1 : BoxL (w.heap.size + 1) [.int .i64 0, .int .i64 0, .int .i64 0, .int .i64 0, .int .i64 0, .int .i64 0, .slice none 0 0] W0 := by
    rw [hW0]
    have h := (BoxL.new (w.alloc (.cells #[.int .i64 i0, .int .i64 i1, .int .i64 i2, .int .i64 i3, .int .i64 i4, .int .i64 i5, .slice a n c] 122)) [.int .i64 0, .int .i64 0, .int .i64 0, .int .i64 0, .int .i64 0, .int .i64 0, .slice none 0 0] 90).alloc (.cells #[.int .i64 i0, .int .i64 i1, .int .i64 i2, .int .i64 i3, .int .i64 i4, .int .i64 i5, .slice none 0 0] 90)
    simpa using h
  have X2 : BoxL (w.heap.size + 1 + 1) [.int .i64 i0, .int .i64 i1, .int .i64 i2, .int .i64 i3, .int .i64 i4, .int .i64 i5, .slice none 0 0] W0 := by
    rw [hW0]
    have h := BoxL.new ((w.alloc (.cells #[.int .i64 i0, .int .i64 i1, .int .i64 i2, .int .i64 i3, .int .i64 i4, .int .i64 i5, .slice a n c] 122)).alloc (.cells #[.int .i64 0, .int .i64 0, .int .i64 0, .int .i64 0, .int .i64 0, .int .i64 0, .slice none 0 0] 90)) [.int .i64 i0, .int .i64 i1, .int .i64 i2, .int .i64 i3, .int .i64 i4, .int .i64 i5, .slice none 0 0] 90
    simpa using h
  have HI := hidOf (hI.keep b0)
  clear hI
  go_enter Tryz.func76, Tryz.ntmps76
  go_wp2_with fail
  rw [← hW0]
  clear hW0
  refine (toTermS_any a n c fl _ HI.out hn).mono ?_
  rintro e w1 ⟨rfl, ho, hb1⟩
  have hB := bl_trans b0 hb1
  have hge : w.heap.size ≤ W0.heap.size := by omega
  generalize hG : W0.heap.size = G at *
  have x1 := X1.keep (w' := w1) (by rw [hG]; exact hb1)
  have x2 := X2.keep (w' := w1) (by rw [hG]; exact hb1)
  have y2 := x2.set 6 (by simp) (.slice (some ⟨G, 0, none⟩) n n)
  have y1 := x1.far (w.heap.size + 1 + 1) 6 (by omega) (.slice (some ⟨G, 0, none⟩) n n)
  have z1 := ((((((y1.set 0 (by simp) (.int .i64 i0)).set 1 (by simp) (.int .i64 i1)).set 2 (by simp) (.int .i64 i2)).set 3 (by simp) (.int .i64 i3)).set 4 (by simp) (.int .i64 i4)).set 5 (by simp) (.int .i64 i5)).set 6 (by simp) (.slice (some ⟨G, 0, none⟩) n n)
  have a6 := x2.cs 6 (by simp)
  have af := x2.fr 6
  have d0 := y2.cs 0 (by simp)
  have d1 := y2.cs 1 (by simp)
  have d2 := y2.cs 2 (by simp)
  have d3 := y2.cs 3 (by simp)
  have d4 := y2.cs 4 (by simp)
  have d5 := y2.cs 5 (by simp)
  have d6 := y2.cs 6 (by simp)
  have e0 := y1.cs 0 (by simp)
  have e1 := y1.cs 1 (by simp)
  have e2 := y1.cs 2 (by simp)
  have e3 := y1.cs 3 (by simp)
  have e4 := y1.cs 4 (by simp)
  have e5 := y1.cs 5 (by simp)
  have e6 := y1.cs 6 (by simp)
  have ef := y1.fr
  have t0 := z1.cs 0 (by simp)
  have t1 := z1.cs 1 (by simp)
  have t2 := z1.cs 2 (by simp)
  have t3 := z1.cs 3 (by simp)
  have t4 := z1.cs 4 (by simp)
  have t5 := z1.cs 5 (by simp)
  have t6 := z1.cs 6 (by simp)
  simp at a6 d0 d1 d2 d3 d4 d5 d6 e0 e1 e2 e3 e4 e5 e6 t0 t1 t2 t3 t4 t5 t6
  have hF : OwnF w.heap.size ((((((((w1.setCell ⟨w.heap.size + 1 + 1, 6, none⟩ (.slice (some ⟨G, 0, none⟩) n n)).setCell ⟨w.heap.size + 1, 0, none⟩ (.int .i64 i0)).setCell ⟨w.heap.size + 1, 1, none⟩ (.int .i64 i1)).setCell ⟨w.heap.size + 1, 2, none⟩ (.int .i64 i2)).setCell ⟨w.heap.size + 1, 3, none⟩ (.int .i64 i3)).setCell ⟨w.heap.size + 1, 4, none⟩ (.int .i64 i4)).setCell ⟨w.heap.size + 1, 5, none⟩ (.int .i64 i5)).setCell ⟨w.heap.size + 1, 6, none⟩ (.slice (some ⟨G, 0, none⟩) n n)) (some ⟨G, 0, none⟩) n fl := by
    have far : ∀ {u : World} (N o : Nat) (v : Value), N < G → OwnF w.heap.size u (some ⟨G, 0, none⟩) n fl → OwnF w.heap.size (u.setCell ⟨N, o, none⟩ v) (some ⟨G, 0, none⟩) n fl := fun N o v hN h =>
      h.other (b := N) ⟨rfl, rfl, rfl, by simp, fun j _ hj => Below.heap_setCell _ _ _ _ (by rintro rfl; exact hj rfl)⟩ (.inr fun b' off' e => by cases e; omega)
    exact far _ _ _ (by omega) (far _ _ _ (by omega) (far _ _ _ (by omega) (far _ _ _ (by omega) (far _ _ _ (by omega) (far _ _ _ (by omega) (far _ _ _ (by omega) (far _ _ _ (by omega) (ho.mono hge))))))))
  have hBF := bl_setB (bl_setB (bl_setB (bl_setB (bl_setB (bl_setB (bl_setB (bl_setB hB (w.heap.size + 1 + 1) 6 (by omega) (.slice (some ⟨G, 0, none⟩) n n)) (w.heap.size + 1) 0 (by omega) (.int .i64 i0)) (w.heap.size + 1) 1 (by omega) (.int .i64 i1)) (w.heap.size + 1) 2 (by omega) (.int .i64 i2)) (w.heap.size + 1) 3 (by omega) (.int .i64 i3)) (w.heap.size + 1) 4 (by omega) (.int .i64 i4)) (w.heap.size + 1) 5 (by omega) (.int .i64 i5)) (w.heap.size + 1) 6 (by omega) (.slice (some ⟨G, 0, none⟩) n n)
  have HF := hidOf hF
  have HB := hidOf hBF
  clear hF hBF ho hb1 hB b0 s0 X1 X2 x1 x2 y1 y2 z1 hG HI
  go_wp2
  exact bodyPost_ret (v := .agg #[.int .i64 i0, .int .i64 i1, .int .i64 i2, .int .i64 i3, .int .i64 i4, .int .i64 i5, .slice (some ⟨G, 0, none⟩) n n]) (by simp [results, Tryz.results76, go_sem, t0, t1, t2, t3, t4, t5, t6]) rfl ⟨G, rfl, hge, HF.out, HB.out⟩
theorem infoSb : (Tryz.prog.info? 90).map (fun i => (i.zero, i.size, i.bytes)) = some (some (.agg #[.int .i64 0, .int .i64 0, .int .i64 0, .int .i64 0, .int .i64 0, .int .i64 0, .slice none 0 0]), 7, 72) := by kernel_rfl
theorem make_subs (n : Nat) (hn : n ≤ 2097152) (w : World) : (Instr.makeSlice 51 (.int .i64 (n : Int)) (.int .i64 (n : Int))).run Tryz.prog w = .ok (.slice (some ⟨w.heap.size, 0, none⟩) n n) (w.alloc (.cells (madeCells (Value.agg #[.int .i64 0, .int .i64 0, .int .i64 0, .int .i64 0, .int .i64 0, .int .i64 0, .slice none 0 0]).cells (n * 7)) 90)) := by
  obtain ⟨i, hi, hz0, hz1, hz2⟩ := info_parts infoSb
  have := run_make (P := Tryz.prog) w 51 90 i (.agg #[.int .i64 0, .int .i64 0, .int .i64 0, .int .i64 0, .int .i64 0, .int .i64 0, .slice none 0 0]) Tryz.underlying51 hi hz0 .i64 .i64 (n : Int) (n : Int) (by omega) (by omega) (by rw [hz2]; omega) (by omega)
  rw [hz1] at this
  simpa using this
/-- A list was made anew: the same subscribers, each with a filter of its own. -/
def ToS (w : World) (n : Nat) (xs : List Sa) (e : Ending) (w' : World) : Prop := ∃ ys : List Sa, e = .returned (.slice (some ⟨w.heap.size, 0, none⟩) n n) ∧ OwnS w.heap.size w' (some ⟨w.heap.size, 0, none⟩) n ys ∧ svs ys = svs xs ∧ (∀ y, y ∈ ys → y.n ≤ y.c ∧ ∃ x, x ∈ xs ∧ y.n = x.n) ∧ Below w.heap.size w w'
set_option maxHeartbeats 1000000 in
theorem toSubS_any (a : Option Addr) (n cap : Nat) (xs : List Sa) (w : World) (hI : SubAt w a n xs) (hn : n ≤ 2097152) (hf : ∀ x, x ∈ xs → x.n ≤ 2097152) :
    Calls Tryz.prog 52 #[.slice a n cap] w fun e w' => ToS w n xs e w' := by
  have hmk := make_subs n hn
  have hS := hidOf (FillS.start w n 90 (Value.agg #[.int .i64 0, .int .i64 0, .int .i64 0, .int .i64 0, .int .i64 0, .int .i64 0, .slice none 0 0]).cells)
  obtain ⟨hlen, hsh, rfl | ⟨b, off, rfl, hb, hcell⟩⟩ := hI
  · have hx : xs = [] := List.length_eq_zero_iff.1 hlen
    subst hx
    have hmk0 : ∀ w : World, (Instr.makeSlice 51 (.int .i64 0) (.int .i64 0)).run Tryz.prog w = .ok (.slice (some ⟨w.heap.size, 0, none⟩) 0 0) (w.alloc (.cells (madeCells (Value.agg #[.int .i64 0, .int .i64 0, .int .i64 0, .int .i64 0, .int .i64 0, .int .i64 0, .slice none 0 0]).cells (0 * 7)) 90)) := fun w => make_subs 0 (by omega) w
    clear hmk
    have hmk := hmk0
    clear hmk0 hsh hf hlen
    go_enter Tryz.func52, Tryz.ntmps52
    go_wp2
    go_loopw [4] (fun i wr => i = .int .i64 0 ∧ FillS w w.heap.size 0 [] wr) (fun _ _ => 0)
    case atStart => exact ⟨rfl, hS.out⟩
    case round =>
      obtain ⟨rfl, hF⟩ := hrel
      clear hS hmk
      go_wp2
      go_ret
      exact ⟨[], rfl, hF.own rfl, rfl, fun y hy => (by cases hy), hF.below⟩
  · have HS := hidOf hsh
    have HFn := hidOf hf
    clear hsh hf
    go_enter Tryz.func52, Tryz.ntmps52
    go_wp2_with fail
    go_loopw [4] (fun i wr => ∃ ys : List Sa, ys.length ≤ n ∧ i = .int .i64 (ys.length : Nat) ∧ svs ys = (svs xs).take ys.length ∧ (∀ y, y ∈ ys → y.n ≤ y.c ∧ ∃ x, x ∈ xs ∧ y.n = x.n) ∧ FillS w w.heap.size n ys wr) (fun i _ => n - (intOf i).toNat)
    case atStart => exact ⟨[], Nat.zero_le _, rfl, rfl, fun y hy => (by cases hy), hS.out⟩
    case round =>
      rename_i wr
      obtain ⟨ys, hk, rfl, hsv, hcp, hF⟩ := hrel
      have HL := hidOf hlen
      have HSv := hidOf hsv
      have HCp := hidOf hcp
      clear hS hmk hlen hsv hcp
      generalize hkk : ys.length = k at *
      have HK := hidOf hkk
      clear hkk
      by_cases hlt : k < n
      · obtain ⟨q0, q1, q2, q3, q4, q5, q6⟩ := (hcell k hlt).below hF.below hb
        have hmem := sg_mem (l := xs) (k := k) (by rw [HL.out]; exact hlt)
        have HC := hidOf (toSub_any (sg xs k) wr ((HS.out _ hmem).keep hF.below) (HFn.out _ hmem))
        have HM := hidOf hmem
        obtain ⟨z, hz⟩ : ∃ z, sg xs k = z := ⟨_, rfl⟩
        rw [hz] at q0 q1 q2 q3 q4 q5 q6 HC
        have HZ := hidOf hz
        have HF := hidOf hF
        clear hz hcell hmem hF
        go_wp2_with fail
        refine HC.out.mono ?_
        rintro e w1 ⟨g, rfl, hg, ho, hb1⟩
        have hF1 := HF.out.keep hb1
        have hgw : w.heap.size < g := Nat.lt_of_lt_of_le HF.out.lt hg
        have hfr := hF1.fr
        have hex := hF1.cells k hlt
        obtain ⟨v0, hv0⟩ := hex 0 (by omega)
        obtain ⟨v1, hv1⟩ := hex 1 (by omega)
        obtain ⟨v2, hv2⟩ := hex 2 (by omega)
        obtain ⟨v3, hv3⟩ := hex 3 (by omega)
        obtain ⟨v4, hv4⟩ := hex 4 (by omega)
        obtain ⟨v5, hv5⟩ := hex 5 (by omega)
        obtain ⟨v6, hv6⟩ := hex 6 (by omega)
        have hT := hF1.step (by rw [HK.out]; exact hlt) ⟨z.s, some ⟨g, 0, none⟩, z.n, z.n⟩ (ho.mono (by have := HF.out.lt; omega)) (.inr fun b off e => by cases e; omega) (fun y hy => by
          rcases (HF.out.fow y hy).tm.lt with k | k
          · exact .inl k
          · exact .inr (.inr fun b off b' off' e e' => by cases e'; have := k b off e; omega))
        rw [HK.out] at hT
        have HT := hidOf hT
        simp only [setL] at HT
        simp only [Nat.add_zero] at hv0
        clear hT hF1 HF HC q0 q1 q2 q3 q4 q5 q6 hb1 ho hex
        go_wp2
        go_roundw
        case rel =>
          refine ⟨ys ++ [⟨z.s, some ⟨g, 0, none⟩, z.n, z.n⟩], by simp; have := HK.out; omega, by simp; have := HK.out; omega, ?_, ?_, HT.out⟩
          · have hk2 : k < (svs xs).length := by simp [svs]; have := HL.out; omega
            have e1 : svs (ys ++ [⟨z.s, some ⟨g, 0, none⟩, z.n, z.n⟩]) = svs ys ++ [z.s] := by simp [svs]
            rw [e1, HSv.out]
            simp only [List.length_append, List.length_singleton, HK.out]
            rw [List.take_succ_eq_append_getElem hk2]
            congr 1
            have hk3 : k < xs.length := by have := HL.out; omega
            have : (svs xs)[k] = z.s := by simp only [svs, List.getElem_map]; rw [← sg_eq hk3, HZ.out]
            rw [this]
          · intro y hy
            rcases List.mem_append.1 hy with hy | hy
            · exact HCp.out y hy
            · obtain rfl : y = ⟨z.s, some ⟨g, 0, none⟩, z.n, z.n⟩ := by simpa using hy
              exact ⟨Nat.le_refl _, z, by rw [← HZ.out]; exact HM.out, rfl⟩
        case measure => simp [intOf]; have := HK.out; omega
      · have hkn : k = n := by omega
        clear hcell
        go_wp2
        go_ret
        refine ⟨ys, rfl, hF.own (by rw [HK.out]; exact hkn), ?_, HCp.out, hF.below⟩
        rw [HSv.out, List.take_of_length_le (by simp [svs]; have := HL.out; omega)]
end Go.Proofs.YtffpecdjfcgadaaGreatDoor
