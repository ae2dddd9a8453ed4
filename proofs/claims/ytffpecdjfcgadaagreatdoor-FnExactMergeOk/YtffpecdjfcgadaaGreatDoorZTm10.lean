/-
  Walks of the laws' own helpers on subscribers that are the same: compared.
  Walks of the laws' own helpers on messages: made anew, compared.
  Walks of the laws' own helpers on messages: weighed.
  Walks of the specification's lines.
  Walks of the specification's lines: copies, and what joins or leaves.
  Walks of the specification's lines: a copy of a list.
  Walks of the specification's lines: a list without one, who joins, who leaves.
  Who waits and who was told: what is asked of them; where two lists lie.
  Walks of the laws' own helpers: what is weighed, and what a marking of two lists leaves alone.
  Rings in memory: what they read as; the laws' own helpers on them: weighed, compared.
-/
import Derived.Test.YtffpecdjfcgadaaGreatDoorZTm9
import Derived.Deep.RegionHeld3
import Derived.Test.YtffpecdjfcgadaaGreatDoorZTm4
import Derived.Test.YtffpecdjfcgadaaGreatDoorZTm8
import Derived.Test.YtffpecdjfcgadaaGreatDoorZTm3
namespace Go.Proofs.YtffpecdjfcgadaaGreatDoor
open Go.RowKit Pl Il

theorem eqSub_same (s : Sb) (a a' : Option Addr) (n n' c c' : Nat) (w : World) (hI : TmAt w a n s.fl) (hJ : TmAt w a' n' s.fl) (hn : n ≤ 2097152) (hn' : n' ≤ 2097152) :
    Calls Tryz.prog 89 #[.agg #[.int .i64 s.id, .int .i64 s.st, .int .i64 s.cu, .int .i64 s.gt, .int .i64 s.lo, .int .i64 s.pa, .slice a n c], .agg #[.int .i64 s.id, .int .i64 s.st, .int .i64 s.cu, .int .i64 s.gt, .int .i64 s.lo, .int .i64 s.pa, .slice a' n' c']] w fun e w' => e = .returned (.bool true) ∧ Below w.heap.size w w' := by
  obtain ⟨i0, i1, i2, i3, i4, i5, fl⟩ := s
  simp only at hI hJ ⊢
  have hB : Below w.heap.size w ((w.alloc (.cells #[.int .i64 i0, .int .i64 i1, .int .i64 i2, .int .i64 i3, .int .i64 i4, .int .i64 i5, .slice a n c] 90)).alloc (.cells #[.int .i64 i0, .int .i64 i1, .int .i64 i2, .int .i64 i3, .int .i64 i4, .int .i64 i5, .slice a' n' c'] 90)) := bl_alloc (bl_alloc (Below.refl _ _) _) _
  have HI := hidOf (hI.keep hB)
  have HJ := hidOf (hJ.keep hB)
  have HB := hidOf hB
  clear hI hJ hB
  go_enter Tryz.func89, Tryz.ntmps89
  go_wp2_with fail
  refine (eqTermS_any a a' n n' c c' fl fl _ HI.out HJ.out hn hn').mono ?_
  rintro e w1 ⟨rfl, hb1⟩
  rw [eqFL_self]
  have hB1 := bl_trans HB.out hb1
  clear hb1 HB HI HJ
  go_wp2
  go_ret
  exact ⟨rfl, hB1⟩
/-- What the comparing of two elements holds on to. -/
abbrev EqS (b o b' o' : Nat) (x y : Sa) (w0 w : World) : Prop :=
  w.cell? ⟨b, o, none⟩ = some (.int .i64 x.s.id) ∧ w.cell? ⟨b, o + 1, none⟩ = some (.int .i64 x.s.st) ∧ w.cell? ⟨b, o + 2, none⟩ = some (.int .i64 x.s.cu) ∧ w.cell? ⟨b, o + 3, none⟩ = some (.int .i64 x.s.gt) ∧ w.cell? ⟨b, o + 4, none⟩ = some (.int .i64 x.s.lo) ∧ w.cell? ⟨b, o + 5, none⟩ = some (.int .i64 x.s.pa) ∧ w.cell? ⟨b, o + 6, none⟩ = some (.slice x.a x.n x.c) ∧
  w.cell? ⟨b', o', none⟩ = some (.int .i64 x.s.id) ∧ w.cell? ⟨b', o' + 1, none⟩ = some (.int .i64 x.s.st) ∧ w.cell? ⟨b', o' + 2, none⟩ = some (.int .i64 x.s.cu) ∧ w.cell? ⟨b', o' + 3, none⟩ = some (.int .i64 x.s.gt) ∧ w.cell? ⟨b', o' + 4, none⟩ = some (.int .i64 x.s.lo) ∧ w.cell? ⟨b', o' + 5, none⟩ = some (.int .i64 x.s.pa) ∧ w.cell? ⟨b', o' + 6, none⟩ = some (.slice y.a y.n y.c) ∧ Below w0.heap.size w0 w
theorem EqS.keep {b o b' o' : Nat} {x y : Sa} {w0 w w' : World} (h : EqS b o b' o' x y w0 w) (q : Below w.heap.size w w') : EqS b o b' o' x y w0 w' := by
  obtain ⟨h0, h1, h2, h3, h4, h5, h6, k0, k1, k2, k3, k4, k5, k6, hb⟩ := h
  exact ⟨cellK h0 q, cellK h1 q, cellK h2 q, cellK h3 q, cellK h4 q, cellK h5 q, cellK h6 q, cellK k0 q, cellK k1 q, cellK k2 q, cellK k3 q, cellK k4 q, cellK k5 q, cellK k6 q, bl_trans hb q⟩
theorem EqS.drew {b o b' o' : Nat} {x y : Sa} {w0 w : World} (h : EqS b o b' o' x y w0 w) : EqS b o b' o' x y w0 w.drew := h.keep (Below.refl _ _).drew
theorem EqS.bel {b o b' o' : Nat} {x y : Sa} {w0 w : World} (h : EqS b o b' o' x y w0 w) : Below w0.heap.size w0 w := h.2.2.2.2.2.2.2.2.2.2.2.2.2.2
theorem svs_at {xs ys : List Sa} (h : svs xs = svs ys) {k : Nat} (hk : k < xs.length) : (sg ys k).s = (sg xs k).s := by
  have hl : xs.length = ys.length := by have := congrArg List.length h; simpa [svs] using this
  rw [sg_eq hk, sg_eq (by omega)]
  have h1 : (svs xs)[k]? = (svs ys)[k]? := by rw [h]
  simp only [svs, List.getElem?_map, List.getElem?_eq_getElem hk, List.getElem?_eq_getElem (show k < ys.length by omega), Option.map_some] at h1
  injection h1 with h1
  exact h1.symm
set_option maxHeartbeats 4000000 in
theorem eqSubS_same (a a' : Option Addr) (n cap cap' : Nat) (xs ys : List Sa) (w : World) (hI : SubAt w a n xs) (hJ : SubAt w a' n ys) (hs : svs xs = svs ys) (hn : n ≤ 2097152) (hf : ∀ x, x ∈ xs → x.n ≤ 2097152) (hf' : ∀ y, y ∈ ys → y.n ≤ 2097152) :
    Calls Tryz.prog 67 #[.slice a n cap, .slice a' n cap'] w fun e w' => e = .returned (.bool true) ∧ Below w.heap.size w w' := by
  by_cases h0 : n = 0
  · subst h0
    clear hI hJ hf hf' hs
    go_enter Tryz.func67, Tryz.ntmps67
    go_wp2
    go_loop [5] (fun i => i = .int .i64 0) (fun _ => 0)
    case atStart => rfl
    case round =>
      subst hrel
      go_wp2
      go_ret
      exact ⟨rfl, Below.refl _ _⟩
  · obtain ⟨hlen, hfil, hr | ⟨b, off, rfl, hb, hcell⟩⟩ := hI
    · omega
    obtain ⟨hlen', hfil', hr | ⟨b', off', rfl, hb', hcell'⟩⟩ := hJ
    · omega
    have HL := hidOf hlen
    have HL' := hidOf hlen'
    have HS := hidOf hs
    have HFi := hidOf hfil
    have HFi' := hidOf hfil'
    have HFn := hidOf hf
    have HFn' := hidOf hf'
    clear hlen hlen' hs hfil hfil' hf hf'
    go_enter Tryz.func67, Tryz.ntmps67
    go_wp2
    go_loopw [5] (fun i wr => ∃ k : Nat, k ≤ n ∧ i = .int .i64 k ∧ Below w.heap.size w wr) (fun i _ => n - (intOf i).toNat)
    case atStart => exact ⟨0, Nat.zero_le _, rfl, Below.refl _ _⟩
    case round =>
      rename_i wr
      obtain ⟨k, hk, rfl, hB⟩ := hrel
      by_cases hlt : k < n
      · have hc := (hcell k hlt).below hB hb
        have hc' := (hcell' k hlt).below hB hb'
        have hse := svs_at HS.out (k := k) (by rw [HL.out]; exact hlt)
        have hm := sg_mem (l := xs) (k := k) (by rw [HL.out]; exact hlt)
        have hm' := sg_mem (l := ys) (k := k) (by rw [HL'.out]; exact hlt)
        have t1 := HFi.out _ hm
        have t2 := HFi'.out _ hm'
        have n1 := HFn.out _ hm
        have n2 := HFn'.out _ hm'
        obtain ⟨x, hx⟩ : ∃ x, sg xs k = x := ⟨_, rfl⟩
        obtain ⟨y, hy⟩ : ∃ y, sg ys k = y := ⟨_, rfl⟩
        rw [hx] at hc t1 n1 hse
        rw [hy] at hc' t2 n2 hse
        rw [hse] at t2
        have hS : EqS b (off + k * 7) b' (off' + k * 7) x y w wr := ⟨hc.c0, hc.c1, hc.c2, hc.c3, hc.c4, hc.c5, hc.c6, by rw [← hse]; exact hc'.c0, by rw [← hse]; exact hc'.c1, by rw [← hse]; exact hc'.c2, by rw [← hse]; exact hc'.c3, by rw [← hse]; exact hc'.c4, by rw [← hse]; exact hc'.c5, hc'.c6, hB⟩
        have HC := hidOf (fun (u : World) (hu : Below w.heap.size w u) => eqSub_same x.s x.a y.a x.n y.n x.c y.c u (t1.keep hu) (t2.keep hu) n1 n2)
        have hki : (0 : Int) ≤ (k : Int) ∧ (k : Int) < (n : Int) := by omega
        clear hcell hcell' hx hy hB hc hc' hse hm hm' t1 t2 n1 n2
        go_wp2_with fail
        go_region_held3 (fun w' => EqS b (off + k * 7) b' (off' + k * 7) x y w w') (first | (exact hS.drew) | (exact EqS.keep (by assumption) (by assumption))) (first | (go_at_call 89; refine (HC.out _ ?hu).mono ?_; (case hu => exact EqS.bel (by assumption)); rintro e w1 ⟨rfl, hb1⟩))
        rename_i hT
        have hB2 := EqS.bel hT
        clear hS hT HC hb1
        go_wp2
        go_roundw
        case rel => exact ⟨k + 1, by omega, by go_num, hB2⟩
        case measure => simp [intOf]; omega
      · clear hcell hcell'
        go_wp2
        go_ret
        exact ⟨rfl, hB⟩
end Go.Proofs.YtffpecdjfcgadaaGreatDoor
namespace Go.Proofs.YtffpecdjfcgadaaGreatDoor
open Go.RowKit Pl Il

theorem toMsgR_any (p : Tm) (w : World) :
    Calls Tryz.prog 75 #[qV p] w fun e w' => e = .returned (qV p) ∧ Below w.heap.size w w' := by
  obtain ⟨x, y, s⟩ := p
  unfold qV
  go_enter Tryz.func75, Tryz.ntmps75
  go_wp2
  refine bodyPost_ret (v := .agg #[.int .i64 x, .int .i64 y, .string s]) (by simp [results, Tryz.results75, go_sem]) rfl ⟨rfl, ?_⟩
  repeat (first | exact Below.refl _ _ | apply Below.drew | apply bl_alloc)
theorem infoMs : (Tryz.prog.info? 94).map (fun i => (i.zero, i.size, i.bytes)) = some (some (.agg #[.int .i64 0, .int .i64 0, .string ⟨#[]⟩]), 3, 32) := by kernel_rfl
theorem make_msgs (n : Nat) (hn : n ≤ 2097152) (w : World) : (Instr.makeSlice 50 (.int .i64 (n : Int)) (.int .i64 (n : Int))).run Tryz.prog w = .ok (.slice (some ⟨w.heap.size, 0, none⟩) n n) (w.alloc (.cells (madeCells (Value.agg #[.int .i64 0, .int .i64 0, .string ⟨#[]⟩]).cells (n * 3)) 94)) := by
  obtain ⟨i, hi, hz0, hz1, hz2⟩ := info_parts infoMs
  have := run_make (P := Tryz.prog) w 50 94 i (.agg #[.int .i64 0, .int .i64 0, .string ⟨#[]⟩]) Tryz.underlying50 hi hz0 .i64 .i64 (n : Int) (n : Int) (by omega) (by omega) (by rw [hz2]; omega) (by omega)
  rw [hz1] at this
  simpa using this

theorem toMsgS_any (a : Option Addr) (n cap : Nat) (ts : List Tm) (w : World) (hI : TmAt w a n ts) (hn : n ≤ 2097152) :
    Calls Tryz.prog 51 #[.slice a n cap] w fun e w' => e = .returned (.slice (some ⟨w.heap.size, 0, none⟩) n n) ∧ OwnF w.heap.size w' (some ⟨w.heap.size, 0, none⟩) n ts ∧ Below w.heap.size w w' := by
  have hmk := make_msgs n hn
  have hS := hidOf (FillF.start w n ts 94 (Value.agg #[.int .i64 0, .int .i64 0, .string ⟨#[]⟩]).cells)
  obtain ⟨hlen, hsh, rfl | ⟨b, off, rfl, hb, hcell⟩⟩ := hI
  · have hx : ts = [] := List.length_eq_zero_iff.1 hlen
    subst hx
    have hmk0 : ∀ w : World, (Instr.makeSlice 50 (.int .i64 0) (.int .i64 0)).run Tryz.prog w = .ok (.slice (some ⟨w.heap.size, 0, none⟩) 0 0) (w.alloc (.cells (madeCells (Value.agg #[.int .i64 0, .int .i64 0, .string ⟨#[]⟩]).cells (0 * 3)) 94)) := fun w => make_msgs 0 (by omega) w
    clear hmk
    have hmk := hmk0
    clear hmk0
    go_enter Tryz.func51, Tryz.ntmps51
    go_wp2
    go_loopw [4] (fun i wr => i = .int .i64 0 ∧ FillF w w.heap.size 0 [] 0 wr) (fun _ _ => 0)
    case atStart => exact ⟨rfl, hS.out⟩
    case round =>
      obtain ⟨rfl, hF⟩ := hrel
      clear hS hmk
      go_wp2
      go_ret
      exact ⟨rfl, hF.own rfl hsh, hF.below⟩
  · have HS := hidOf hsh
    clear hsh
    go_enter Tryz.func51, Tryz.ntmps51
    go_wp2_with fail
    go_loopw [4] (fun i wr => ∃ k : Nat, k ≤ n ∧ i = .int .i64 k ∧ FillF w w.heap.size n ts k wr) (fun i _ => n - (intOf i).toNat)
    case atStart => exact ⟨0, Nat.zero_le _, rfl, hS.out⟩
    case round =>
      rename_i wr
      obtain ⟨k, hk, rfl, hF⟩ := hrel
      have HL := hidOf hlen
      clear hS hmk hlen
      by_cases hlt : k < n
      · have hc : wr.cell? ⟨b, off + k * 3, none⟩ = some (.int .i64 (qg ts k).1) := by rw [hF.below.cell (p := ⟨b, off + k * 3, none⟩) hb]; exact (hcell k hlt).1
        have hc2 : wr.cell? ⟨b, off + k * 3 + 1, none⟩ = some (.int .i64 (qg ts k).2.1) := by rw [hF.below.cell (p := ⟨b, off + k * 3 + 1, none⟩) hb]; exact (hcell k hlt).2.1
        have hc3 : wr.cell? ⟨b, off + k * 3 + 2, none⟩ = some (.string (qg ts k).2.2) := by rw [hF.below.cell (p := ⟨b, off + k * 3 + 2, none⟩) hb]; exact (hcell k hlt).2.2
        have HC := fun u => hidOf (toMsgR_any (qg ts k) u)
        unfold qV at HC
        obtain ⟨y, hy⟩ : ∃ y, qg ts k = y := ⟨_, rfl⟩
        rw [hy] at hc hc2 hc3 HC
        have HY := hidOf hy
        have HF := hidOf hF
        clear hy hcell hF
        go_wp2_with fail
        refine ((HC _).out).mono ?_
        rintro e w1 ⟨rfl, hb1⟩
        have hF1 := HF.out.keep hb1
        obtain ⟨v0, v1, v2, hv0, hv1, hv2, _⟩ := hF1.cells k hlt
        have hfr := hF1.fr
        have HF1 := hidOf (hF1.step y HY.out)
        unfold set3 at HF1
        clear hF1 HF HC hc hc2 hc3 hb1
        go_wp2
        go_roundw
        case rel => exact ⟨k + 1, by omega, by go_num, HF1.out⟩
        case measure => simp [intOf]; omega
      · obtain rfl : k = n := by omega
        clear hcell
        go_wp2
        go_ret
        exact ⟨rfl, hF.own HL.out HS.out, hF.below⟩
theorem eqMsgR_any (p q : Tm) (w : World) :
    Calls Tryz.prog 88 #[qV p, qV q] w fun e w' => e = .returned (.bool (eqQ p q)) ∧ Below w.heap.size w w' := by
  obtain ⟨x, y, s⟩ := p
  obtain ⟨x', y', s'⟩ := q
  unfold qV eqQ
  have hB : Below w.heap.size w ((w.alloc (.cells #[.int .i64 x, .int .i64 y, .string s] 94)).alloc (.cells #[.int .i64 x', .int .i64 y', .string s'] 94)) := bl_alloc (bl_alloc (Below.refl _ _) _) _
  by_cases h0 : x = x'
  · by_cases h1 : y = y'
    · by_cases h2 : s = s'
      · subst h0 h1 h2
        go_enter Tryz.func88, Tryz.ntmps88
        go_wp2
        go_ret
        exact ⟨rbool (by simp), hB⟩
      · subst h0 h1
        have hd := ba_ne h2
        go_enter Tryz.func88, Tryz.ntmps88
        go_wp2
        go_ret
        exact ⟨rbool (by simp [h2]), hB⟩
    · subst h0
      have hd : (y != y') = true := by simp [h1]
      go_enter Tryz.func88, Tryz.ntmps88
      go_wp2
      go_ret
      exact ⟨rbool (by simp [h1]), hB⟩
  · have hd : (x != x') = true := by simp [h0]
    go_enter Tryz.func88, Tryz.ntmps88
    go_wp2
    go_ret
    exact ⟨rbool (by simp [h0]), hB⟩
theorem eqMsgS_any (a a' : Option Addr) (n n' cap cap' : Nat) (xs ys : List Tm) (w : World) (hI : TmAt w a n xs) (hJ : TmAt w a' n' ys) (hn : n ≤ 2097152) (hn' : n' ≤ 2097152) :
    Calls Tryz.prog 66 #[.slice a n cap, .slice a' n' cap'] w fun e w' => e = .returned (.bool (eqFL xs ys)) ∧ Below w.heap.size w w' := by
  by_cases hl : n = n'
  · subst hl
    by_cases h0 : n = 0
    · subst h0
      have e1 : xs = [] := List.length_eq_zero_iff.1 hI.len
      have e2 : ys = [] := List.length_eq_zero_iff.1 hJ.len
      subst e1 e2
      clear hI hJ
      go_enter Tryz.func66, Tryz.ntmps66
      go_wp2
      go_loop [5] (fun i => i = .int .i64 0) (fun _ => 0)
      case atStart => rfl
      case round =>
        subst hrel
        go_wp2
        go_ret
        exact ⟨rfl, Below.refl _ _⟩
    · obtain ⟨hlen, _, hr | ⟨b, off, rfl, hb, hcell⟩⟩ := hI
      · omega
      obtain ⟨hlen', _, hr | ⟨b', off', rfl, hb', hcell'⟩⟩ := hJ
      · omega
      have HL := hidOf hlen
      have HL' := hidOf hlen'
      clear hlen hlen'
      go_enter Tryz.func66, Tryz.ntmps66
      go_wp2
      go_loopw [5] (fun i wr => ∃ k : Nat, k ≤ n ∧ i = .int .i64 k ∧ xs.take k = ys.take k ∧ Below w.heap.size w wr) (fun i _ => n - (intOf i).toNat)
      case atStart => exact ⟨0, Nat.zero_le _, rfl, rfl, Below.refl _ _⟩
      case round =>
        rename_i wr
        obtain ⟨k, hk, rfl, hno, hB⟩ := hrel
        have Hno := hidOf hno
        clear hno
        by_cases hlt : k < n
        · have hS : EqR b (off + k * 3) b' (off' + k * 3) (qg xs k) (qg ys k) w wr := ⟨by rw [hB.cell (p := ⟨b, off + k * 3, none⟩) hb]; exact (hcell k hlt).1, by rw [hB.cell (p := ⟨b, off + k * 3 + 1, none⟩) hb]; exact (hcell k hlt).2.1, by rw [hB.cell (p := ⟨b, off + k * 3 + 2, none⟩) hb]; exact (hcell k hlt).2.2, by rw [hB.cell (p := ⟨b', off' + k * 3, none⟩) hb']; exact (hcell' k hlt).1, by rw [hB.cell (p := ⟨b', off' + k * 3 + 1, none⟩) hb']; exact (hcell' k hlt).2.1, by rw [hB.cell (p := ⟨b', off' + k * 3 + 2, none⟩) hb']; exact (hcell' k hlt).2.2, hB⟩
          have HC := fun u => hidOf (eqMsgR_any (qg xs k) (qg ys k) u)
          unfold qV at HC
          have hki : (0 : Int) ≤ (k : Int) ∧ (k : Int) < (n : Int) := by omega
          obtain ⟨x, hx⟩ : ∃ x, qg xs k = x := ⟨_, rfl⟩
          obtain ⟨y, hy⟩ : ∃ y, qg ys k = y := ⟨_, rfl⟩
          rw [hx, hy] at hS HC
          have HX := hidOf hx
          have HY := hidOf hy
          clear hcell hcell' hx hy hB
          go_wp2_with fail
          go_region_held3 (fun w' => EqR b (off + k * 3) b' (off' + k * 3) x y w w') (first | (exact hS.drew) | (exact EqR.keep (by assumption) (by assumption))) (first | (go_at_call 88; refine ((HC _).out).mono ?_; rintro e w1 ⟨rfl, hb1⟩))
          rename_i hT
          cases hd : eqQ x y
          · have hB2 := hT.2.2.2.2.2.2
            have Hxy := hidOf hd
            clear hd hS hT
            go_wp2
            go_ret
            exact ⟨rbool (eqF_no (k := k) (by rw [HX.out, HY.out]; intro e; have := eqQ_iff.2 e; rw [Hxy.out] at this; cases this)).symm, hB2⟩
          · have hB2 := hT.2.2.2.2.2.2
            have Hxy := hidOf (eqQ_iff.1 hd)
            clear hd hS hT
            go_wp2
            go_roundw
            case rel => exact ⟨k + 1, by omega, by go_num, eqF_step (by have := HL.out; omega) (by have := HL'.out; omega) Hno.out (by rw [HX.out, HY.out]; exact Hxy.out), hB2⟩
            case measure => simp [intOf]; omega
        · clear hcell hcell'
          go_wp2
          go_ret
          exact ⟨rbool (eqF_end (by have := HL.out; have := HL'.out; omega) (by have := HL.out; omega) Hno.out).symm, hB⟩
  · have hne : ((n : Int) != (n' : Int)) = true := by simp; omega
    have hq := eqF_len (xs := xs) (ys := ys) (by rw [hI.len, hJ.len]; exact hl)
    clear hI hJ
    go_enter Tryz.func66, Tryz.ntmps66
    go_wp2
    go_ret
    exact ⟨rbool hq.symm, Below.refl _ _⟩
end Go.Proofs.YtffpecdjfcgadaaGreatDoor
namespace Go.Proofs.YtffpecdjfcgadaaGreatDoor
open Go.RowKit Pl Il

theorem szMsgR_any (p : Tm) (l : Int) (w : World) (hm : p.2.2.size ≤ maxLen) (h0 : 0 ≤ l) (h1 : l ≤ 1048576) :
    Calls Tryz.prog 69 #[qV p, .int .i64 l] w fun e w' => e = .returned (.int .i64 (if l < (p.2.2.size : Int) then -1 else l - (p.2.2.size : Int))) ∧ Below w.heap.size w w' := by
  obtain ⟨x, y, s⟩ := p
  unfold qV
  unfold maxLen at hm
  simp only at hm ⊢
  have hb : Below w.heap.size w (w.alloc (.cells #[.int .i64 x, .int .i64 y, .string s] 118)) := bl_alloc (Below.refl _ _) _
  by_cases h : l < (s.size : Int)
  · have h' : l - (s.size : Int) < 0 := by omega
    go_enter Tryz.func69, Tryz.ntmps69
    go_wp2
    go_ret
    exact ⟨rint (by simp), hb⟩
  · have h' : ¬ l - (s.size : Int) < 0 := by omega
    go_enter Tryz.func69, Tryz.ntmps69
    go_wp2
    go_ret
    exact ⟨rint (by simp), hb⟩
set_option maxHeartbeats 1000000 in
theorem szMsgS_any (a : Option Addr) (n c : Nat) (ts : List Tm) (l : Int) (w : World) (hI : TmAt w a n ts) (hn : n ≤ 9223372036854775807) (l0 : 0 ≤ l) (l1 : l ≤ 1048576) :
    Calls Tryz.prog 43 #[.slice a n c, .int .i64 l] w fun e w' => SzF n e ∧ Below w.heap.size w w' := by
  by_cases h : l < (n : Int)
  · have h' : l - (n : Int) < 0 := by omega
    clear hI
    go_enter Tryz.func43, Tryz.ntmps43
    go_wp2
    go_ret
    exact ⟨⟨_, rfl, .inl (by omega)⟩, Below.refl _ _⟩
  · have h' : ¬ l - (n : Int) < 0 := by omega
    have hn2 : n ≤ 1048576 := by omega
    obtain ⟨hlen, hsh, hr⟩ := hI
    have HS := hidOf hsh
    have HL := hidOf hlen
    have HR := hidOf hr
    clear hsh hlen hr
    go_enter Tryz.func43, Tryz.ntmps43
    go_wp2
    go_loopw [1, 5] (fun x i wr => ∃ (k : Nat) (y : Int), k ≤ n ∧ i = .int .i64 k ∧ x = .int .i64 y ∧ 0 ≤ y ∧ y ≤ 1048576 ∧ Below w.heap.size w wr) (fun _ i _ => n - (intOf i).toNat)
    case atStart => exact ⟨0, _, Nat.zero_le _, rfl, rfl, by omega, by omega, Below.refl _ _⟩
    case round =>
      rename_i wr
      obtain ⟨k, y, hk, rfl, rfl, y0, y1, hB⟩ := hrel
      by_cases hlt : k < n
      · obtain hr | ⟨b, off, rfl, hb, hcell⟩ := HR.out
        · omega
        obtain ⟨q0, q1, q2⟩ := hcell k hlt
        have hc := cellK q0 (hB.mono (by omega))
        have hc2 := cellK q1 hB
        have hc3 := cellK q2 hB
        have HC := fun u => hidOf (szMsgR_any (qg ts k) y u (HS.out _ (qg_mem (by rw [HL.out]; exact hlt))) y0 y1)
        unfold qV at HC
        obtain ⟨z, hz⟩ : ∃ z, qg ts k = z := ⟨_, rfl⟩
        rw [hz] at hc hc2 hc3 HC
        clear hz hcell q0 q1 q2
        go_wp2_with fail
        refine ((HC _).out).mono ?_
        rintro e w1 ⟨rfl, hb1⟩
        have hB1 := bl_trans hB hb1
        clear HC hc hc2 hc3 hb1 hB
        by_cases hg : y < (z.2.2.size : Int)
        · rw [if_pos hg]
          go_wp2
          go_ret
          exact ⟨⟨_, rfl, .inl (by omega)⟩, hB1⟩
        · rw [if_neg hg]
          have hg' : ¬ y - (z.2.2.size : Int) < 0 := by omega
          go_wp2
          go_roundw
          case rel => exact ⟨k + 1, _, by omega, by go_num, rfl, by omega, by omega, hB1⟩
          case measure => simp [intOf]; omega
      · go_wp2
        go_ret
        exact ⟨⟨_, rfl, .inr ⟨y0, y1, hn2⟩⟩, hB⟩
end Go.Proofs.YtffpecdjfcgadaaGreatDoor
namespace Go.Proofs.YtffpecdjfcgadaaGreatDoor
open Go.RowKit Pl Il

/-- The first k clients of a line: each a client, none twice. -/
def lineTo (xs : List Int) (k : Nat) : Bool := (List.range k).all fun i => clientL (xs.getD i 0) && !hasL (xs.take i) (xs.getD i 0)
/-- A right line. -/
def lineL (xs : List Int) : Bool := decide (xs.length ≤ 32) && lineTo xs xs.length
theorem lineTo_zero (xs : List Int) : lineTo xs 0 = true := by simp [lineTo]
theorem lineTo_step {xs : List Int} {k : Nat} {y : Int} (h : lineTo xs k = true) (hy : xs.getD k 0 = y) (hc : clientL y = true) (hh : hasL (xs.take k) y = false) : lineTo xs (k + 1) = true := by
  simp only [lineTo, List.range_succ, List.all_append, List.all_cons, List.all_nil, Bool.and_true, Bool.and_eq_true] at h ⊢
  exact ⟨h, by rw [hy]; exact hc, by rw [hy, hh]; rfl⟩
theorem line_bad {xs : List Int} {k : Nat} {y : Int} (hk : k < xs.length) (hy : xs.getD k 0 = y) (h : clientL y = false ∨ hasL (xs.take k) y = true) : lineL xs = false := by
  have : lineTo xs xs.length = false := by
    unfold lineTo
    rw [List.all_eq_false]
    refine ⟨k, List.mem_range.2 hk, ?_⟩
    rw [hy]
    rcases h with h | h <;> simp [h]
  simp [lineL, this]
theorem line_long {xs : List Int} (h : ¬ xs.length ≤ 32) : lineL xs = false := by simp [lineL, h]
theorem line_end {xs : List Int} (h : xs.length ≤ 32) (ht : lineTo xs xs.length = true) : lineL xs = true := by simp [lineL, h, ht]

theorem in_any (n a b : Int) (w : World) :
    Calls Tryz.prog 15 #[.int .i64 n, .int .i64 a, .int .i64 b] w fun e w' => e = .returned (.bool (decide (a ≤ n) && decide (n ≤ b))) ∧ w' = w := by
  go_enter Tryz.func15, Tryz.ntmps15
  go_wp2
  all_goals go_ret
  all_goals (refine ⟨rbool ?_, rfl⟩; simp; try omega)

end Go.Proofs.YtffpecdjfcgadaaGreatDoor
namespace Go.Proofs.YtffpecdjfcgadaaGreatDoor
open Go.RowKit Pl Il

theorem wpList_append_run {P : Program} {ops : Array Oper} {rest : List Oper} {o : Oper} {a : Act} {Q : Exit → Act → World → Prop} {w w' : World} (hgd : o.guard = none) (s x : Operand) (t : TypeId)
    (ho : o.op = .call { callee := .builtin .append, args := #[s, x], argTypes := #[t, t] }) (v u v' : Value) (hs : a.eval s = v) (hx : a.eval x = u)
    (hr : (Builtin.append_ #[t, t] o.type #[v, u]).run P w = .ok v' w') (h : wpList P ops Q rest (a.put o.dst v') w') : wpList P ops Q (o :: rest) a w :=
  wpList_plain hgd fun _ hK => by
    unfold Oper.wp execOp
    simp only [ho, resolve, invoke, builtin, Sem.run_bind, Sem.run_pure, Result.andThen_ok, List.map_toArray, List.map_cons, List.map_nil, hs, hx, hr]
    exact hK _ _ h

/-- A list that the call has made: its row, whole. -/
abbrev Owns (B : Nat) (w : World) (g n cap : Nat) (xs : List Int) : Prop := w.ownsRow B 3 1 (.slice (some ⟨g, 0, none⟩) n cap) n (xs.map (Value.int .i64))
theorem owns_parts {B : Nat} {w : World} {g n cap : Nat} {xs : List Int} (h : Owns B w g n cap xs) : xs.length = n ∧ B ≤ g ∧ g < w.heap.size ∧ n ≤ cap ∧ cap ≤ maxLen ∧ OwnAt B w (some ⟨g, 0, none⟩) n xs := by
  obtain ⟨a, c, e, ho⟩ := own_of h xs rfl
  cases e
  obtain ⟨hl, ⟨e, _⟩ | ⟨g', c', cur, e, hB, hg, hc, hm, _⟩⟩ := h
  · cases e
  · cases e
    refine ⟨by simpa using hl, hB, ?_, hc, hm, ho⟩
    rcases Nat.lt_or_ge g w.heap.size with k | k
    · exact k
    · rw [Array.getElem?_eq_none k] at hg; cases hg
theorem owns_keep {B : Nat} {w w' : World} {g n cap : Nat} {xs : List Int} (h : Owns B w g n cap xs) (hb : Below w.heap.size w w') : Owns B w' g n cap xs := by
  have hlt := (owns_parts h).2.2.1
  obtain ⟨hl, ⟨e, _⟩ | ⟨g', c', cur, e, hB, hg, hr⟩⟩ := h
  · cases e
  · cases e
    exact ⟨hl, .inr ⟨g, cap, cur, rfl, hB, by rw [hb.block g hlt]; exact hg, hr⟩⟩
theorem owns_mono {B B' : Nat} {w : World} {g n cap : Nat} {xs : List Int} (h : Owns B w g n cap xs) (hB : B' ≤ B) : Owns B' w g n cap xs := by
  obtain ⟨hl, ⟨e, _⟩ | ⟨g', c', cur, e, hB0, hr⟩⟩ := h
  · cases e
  · exact ⟨hl, .inr ⟨g', c', cur, e, Nat.le_trans hB hB0, hr⟩⟩
theorem owns_empty (w : World) : Owns w.heap.size (w.alloc (.cells #[] 3)) w.heap.size 0 0 [] :=
  ⟨rfl, .inr ⟨w.heap.size, 0, #[], rfl, Nat.le_refl _, heap_alloc_new w _, Nat.le_refl _, Nat.zero_le _, rfl, rfl⟩⟩

theorem append_ints2 (B g m c : Nat) (ys : List Int) (a : Option Addr) (n cap : Nat) (xs : List Int) (w : World) (ho : Owns B w g m c ys) (hB : B ≤ w.heap.size) (hI : IntsAt w a n xs) (hs : m + n ≤ 4194304) :
    ∃ (g' c' : Nat) (w' : World), (Builtin.append_ #[41, 41] 41 #[.slice (some ⟨g, 0, none⟩) m c, .slice a n cap]).run Tryz.prog w = .ok (.slice (some ⟨g', 0, none⟩) (m + n) c') w' ∧
      Owns B w' g' (m + n) c' (ys ++ xs) ∧ w.grownBy w' (some g) ∧ (g' = g ∨ g' = w.heap.size) := by
  obtain ⟨i, hi, hz0, hz1, hz2⟩ := info_parts info3
  have hg0 : w.grownBy w (some g) := ⟨rfl, rfl, rfl, Nat.le_refl _, fun _ _ _ => rfl⟩
  have short : ∀ u : Value, (Builtin.append_ #[41, 41] 41 #[.slice (some ⟨g, 0, none⟩) m c, u]).run Tryz.prog w = .ok (.slice (some ⟨g, 0, none⟩) m c) w →
      ∃ (g' c' : Nat) (w' : World), (Builtin.append_ #[41, 41] 41 #[.slice (some ⟨g, 0, none⟩) m c, u]).run Tryz.prog w = .ok (.slice (some ⟨g', 0, none⟩) (m + 0) c') w' ∧ Owns B w' g' (m + 0) c' (ys ++ []) ∧ w.grownBy w' (some g) ∧ (g' = g ∨ g' = w.heap.size) :=
    fun u hu => ⟨g, c, w, hu, by rw [List.append_nil]; exact ho, hg0, .inl rfl⟩
  have hmc := (owns_parts ho).2.2.2.1
  obtain ⟨hlen, rfl | ⟨b, off, rfl, hb, hcell⟩⟩ := hI
  · have hx : xs = [] := List.length_eq_zero_iff.1 hlen
    subst hx
    refine short _ ?_
    rcases a with _ | ad
    · exact run_append_room_src _ _ _ _ 3 i Tryz.underlying41 hi g 0 m c _ 0 [] (Src.ofNil _ Tryz.underlying41 cap) (by omega) (fun j hj => by cases hj) (fun j hj => by cases hj)
    · exact run_append_room_src _ _ _ _ 3 i Tryz.underlying41 hi g 0 m c _ 0 [] (Src.ofSlice _ Tryz.underlying41 ad 0 cap [] (by simp) (fun j u h => by simp at h) (fun u h => by cases h)) (by omega) (fun j hj => by cases hj) (fun j hj => by cases hj)
  · rcases Nat.eq_zero_or_pos n with h0 | hpos
    · subst h0
      have hx : xs = [] := List.length_eq_zero_iff.1 hlen
      subst hx
      refine short _ ?_
      exact run_append_room_src _ _ _ _ 3 i Tryz.underlying41 hi g 0 m c _ 0 [] (Src.ofSlice _ Tryz.underlying41 ⟨b, off, none⟩ 0 cap [] (by simp) (fun j u h => by simp at h) (fun u h => by cases h)) (by omega) (fun j hj => by cases hj) (fun j hj => by cases hj)
    · obtain ⟨g', c', w', hr, hown, hgrow, hat, _⟩ := run_append_lies (P := Tryz.prog) w 41 41 B 3 i (.int .i64 0) 1 8 Tryz.underlying41 hi hz0 hz1 hz2 rfl (by omega) _ m _ ho ⟨b, off, none⟩ n cap (xs.map (Value.int .i64)) (by simp [hlen])
        (fun j u h => by
          rw [Addr.add_lit]
          have hj : j < n := by
            have := (List.getElem?_eq_some_iff.1 h).1
            simpa [hlen] using this
          rw [hcell j hj]
          simp only [List.getElem?_map] at h
          rw [List.getElem?_eq_getElem (by omega)] at h
          simp only [Option.map_some, Option.some.injEq] at h
          rw [← h]
          simp [List.getD, List.getElem?_eq_getElem (show j < xs.length by omega)])
        (fun u hu => by obtain ⟨_, _, rfl⟩ := List.mem_map.1 hu; rfl) hpos (by unfold maxLen; omega) (by omega) hB _ rfl
      refine ⟨g', c', w', hr, by rw [← List.map_append] at hown; exact hown, hgrow, ?_⟩
      rcases hat with h | h
      · left; simpa [Value.ownBlock] using h.symm
      · exact .inr h
theorem append_ints (B g m c : Nat) (ys : List Int) (a : Option Addr) (n cap : Nat) (xs : List Int) (w : World) (ho : Owns B w g m c ys) (hB : B ≤ w.heap.size) (hI : IntsAt w a n xs) (hs : m + n ≤ 4194304) :
    ∃ (g' c' : Nat) (w' : World), (Builtin.append_ #[41, 41] 41 #[.slice (some ⟨g, 0, none⟩) m c, .slice a n cap]).run Tryz.prog w = .ok (.slice (some ⟨g', 0, none⟩) (m + n) c') w' ∧
      Owns B w' g' (m + n) c' (ys ++ xs) ∧ w.grownBy w' (some g) := by
  obtain ⟨g', c', w', h1, h2, h3, _⟩ := append_ints2 B g m c ys a n cap xs w ho hB hI hs
  exact ⟨g', c', w', h1, h2, h3⟩
end Go.Proofs.YtffpecdjfcgadaaGreatDoor
namespace Go.Proofs.YtffpecdjfcgadaaGreatDoor
open Go.RowKit Pl Il

theorem l2Copy_any (a : Option Addr) (n cap : Nat) (xs : List Int) (w : World) (hI : IntsAt w a n xs) (hn : n ≤ 2097152) :
    Calls Tryz.prog 50 #[.slice a n cap] w fun e w' => ∃ g c, e = .returned (.slice (some ⟨g, 0, none⟩) n c) ∧ Owns w.heap.size w' g n c xs ∧ Below w.heap.size w w' := by
  have hb0 : Below w.heap.size w (w.alloc (.cells #[] 3)) := bl_alloc (Below.refl _ _) _
  obtain ⟨g, c, w', hr, ho, hg⟩ := append_ints w.heap.size w.heap.size 0 0 [] a n cap xs (w.alloc (.cells #[] 3)) (owns_empty w) (by simp) (hI.keep hb0) (by omega)
  rw [Nat.zero_add] at hr ho
  rw [List.nil_append] at ho
  have hb : Below w.heap.size w w' := hb0.grown hg (by simp) (fun k hk => by simp at hk; omega)
  have Hr : Hid _ := hr
  clear hr hg hb0 hI
  go_enter Tryz.func50, Tryz.ntmps50
  go_wp2_with (at_builtin; refine wpList_append_run rfl _ _ 41 rfl _ _ _ rfl rfl Hr.out ?_)
  go_ret
  exact ⟨g, c, rfl, ho, hb⟩
end Go.Proofs.YtffpecdjfcgadaaGreatDoor
namespace Go.Proofs.YtffpecdjfcgadaaGreatDoor
open Go.RowKit Pl Il

/-- append of one number to a row that is owned, or nil. -/
theorem append_own1 (B m : Nat) (v : Value) (ys : List Int) (x : Int) (w : World) (ho : w.ownsRow B 3 1 v m (ys.map (Value.int .i64))) (hB : B ≤ w.heap.size) (hs : m + 1 ≤ 4194304) :
    ∃ (g' c' : Nat) (w' : World), (Builtin.append_ #[41, 41] 41 #[v, .slice (some ⟨w.heap.size, 0, none⟩) 1 1]).run Tryz.prog (w.alloc (.cells #[.int .i64 x] 3)) = .ok (.slice (some ⟨g', 0, none⟩) (m + 1) c') w' ∧
      w'.ownsRow B 3 1 (.slice (some ⟨g', 0, none⟩) (m + 1) c') (m + 1) ((ys ++ [x]).map (Value.int .i64)) ∧ w.grownBy w' v.ownBlock ∧ (v.ownBlock = some g' ∨ w.heap.size ≤ g') := by
  obtain ⟨i, hi, hz0, hz1, hz2⟩ := info_parts info3
  obtain ⟨g', c', w', hr, hown, hgrow, hl, _⟩ := run_append_lies (P := Tryz.prog) (w.alloc (.cells #[.int .i64 x] 3)) 41 41 B 3 i (.int .i64 0) 1 8 Tryz.underlying41 hi hz0 hz1 hz2 rfl (by omega) v m _ (ho.alloc _) ⟨w.heap.size, 0, none⟩ 1 1 [.int .i64 x] rfl
    (cell_one_new _ _ _) (fun u hu => by rw [List.mem_singleton] at hu; subst hu; rfl) (by omega) (by unfold maxLen; omega) (by omega) (by simp; omega) _ rfl
  refine ⟨g', c', w', hr, by rw [List.map_append]; exact hown, (World.grownBy_alloc w _ _).trans hgrow, ?_⟩
  rcases hl with h | h
  · exact .inl h
  · right; subst h; simp

theorem append_one (B g m c : Nat) (ys : List Int) (x : Int) (w w0 : World) (hB : B = w0.heap.size) (ho : Owns B w g m c ys) (hb : Below B w0 w) (hs : m + 1 ≤ 4194304) :
    ∃ (g' c' : Nat) (w' : World), (Builtin.append_ #[41, 41] 41 #[.slice (some ⟨g, 0, none⟩) m c, .slice (some ⟨w.heap.size, 0, none⟩) 1 1]).run Tryz.prog (w.alloc (.cells #[.int .i64 x] 3)) = .ok (.slice (some ⟨g', 0, none⟩) (m + 1) c') w' ∧
      Owns B w' g' (m + 1) c' (ys ++ [x]) ∧ Below B w0 w' := by
  subst hB
  have hb0 : Below w.heap.size w (w.alloc (.cells #[.int .i64 x] 3)) := bl_alloc (Below.refl _ _) _
  have hle := hb.size
  obtain ⟨_, hgB, _⟩ := owns_parts ho
  obtain ⟨g', c', w', hr, ho', hg⟩ := append_ints w0.heap.size g m c ys (some ⟨w.heap.size, 0, none⟩) 1 1 [x] (w.alloc (.cells #[.int .i64 x] 3)) (owns_keep ho hb0) (by simp; omega)
    ⟨rfl, .inr ⟨w.heap.size, 0, rfl, by simp, fun i hi => by obtain rfl : i = 0 := by omega
                                                             simp [World.cell?_alloc_new]⟩⟩ (by omega)
  exact ⟨g', c', w', hr, ho', (bl_alloc hb _).grown hg (by simp; omega) (fun k hk => by simp at hk; omega)⟩

/-- A list without the first that is x. -/
def lessL (xs : List Int) (x : Int) : List Int := xs.erase x
theorem less_nil (x : Int) : lessL [] x = [] := rfl
theorem less_skip {xs : List Int} {k : Nat} {x y : Int} (hk : k < xs.length) (hy : xs.getD k 0 = y) (h : hasL (xs.take k) x = false) (he : (y == x) = true) : lessL (xs.take (k + 1)) x = lessL (xs.take k) x := by
  rw [List.take_succ_eq_append_getElem hk]
  have e : xs.getD k 0 = xs[k] := by simp [List.getD, List.getElem?_eq_getElem hk]
  rw [e] at hy
  have hm : x ∉ xs.take k := by simpa [hasL] using h
  have hyx : y = x := by simpa using he
  unfold lessL
  rw [List.erase_append_right _ hm, hy, hyx, List.erase_of_not_mem hm]
  simp
theorem less_keep {xs : List Int} {k : Nat} {x y : Int} (hk : k < xs.length) (hy : xs.getD k 0 = y) (h : hasL (xs.take k) x = true ∨ (y == x) = false) : lessL (xs.take (k + 1)) x = lessL (xs.take k) x ++ [y] := by
  rw [List.take_succ_eq_append_getElem hk]
  have e : xs.getD k 0 = xs[k] := by simp [List.getD, List.getElem?_eq_getElem hk]
  rw [e] at hy
  unfold lessL
  rw [List.erase_append, hy]
  split
  · rfl
  · rename_i hn
    rcases h with h | h
    · exact absurd (by simpa [hasL] using h) hn
    · rw [List.erase_of_not_mem hn, List.erase_of_not_mem]
      simp only [List.mem_singleton]
      rintro rfl
      simp at h
theorem has_more {xs : List Int} {k : Nat} {x y : Int} (hk : k < xs.length) (hy : xs.getD k 0 = y) : hasL (xs.take (k + 1)) x = (hasL (xs.take k) x || (y == x)) := by
  rw [List.take_succ_eq_append_getElem hk]
  have e : xs.getD k 0 = xs[k] := by simp [List.getD, List.getElem?_eq_getElem hk]
  rw [e] at hy
  rw [Bool.eq_iff_iff]
  simp only [hasL, hy, List.contains_eq_mem, List.mem_append, List.mem_singleton, Bool.or_eq_true, decide_eq_true_eq, beq_iff_eq]
  exact ⟨fun h => h.imp id Eq.symm, fun h => h.imp id Eq.symm⟩
theorem less_len (xs : List Int) (x : Int) : (lessL xs x).length ≤ xs.length := List.length_erase_le

end Go.Proofs.YtffpecdjfcgadaaGreatDoor
namespace Go.Proofs.YtffpecdjfcgadaaGreatDoor
open Go.RowKit Pl Il

def cnt (x : Int) : Bool := decide (0 ≤ x) && decide (x ≤ 1000000000)
/-- Nobody of told stands in the line. -/
def apartL (ln told : List Int) : Bool := told.all fun x => !hasL ln x
theorem apart_step {ln told : List Int} {k : Nat} {y : Int} (hk : k < told.length) (hy : told.getD k 0 = y) (h : apartL ln (told.take k) = true) (hh : hasL ln y = false) : apartL ln (told.take (k + 1)) = true := by
  have e : told.getD k 0 = told[k] := by simp [List.getD, List.getElem?_eq_getElem hk]
  rw [List.take_succ_eq_append_getElem hk, ← e, hy]
  simp only [apartL, List.all_append, List.all_cons, List.all_nil, Bool.and_true, Bool.and_eq_true] at h ⊢
  exact ⟨h, by rw [hh]; rfl⟩
theorem apart_bad {ln told : List Int} {k : Nat} {y : Int} (hk : k < told.length) (hy : told.getD k 0 = y) (hh : hasL ln y = true) : apartL ln told = false := by
  have e : told.getD k 0 = told[k] := by simp [List.getD, List.getElem?_eq_getElem hk]
  unfold apartL
  rw [List.all_eq_false]
  exact ⟨told[k], List.getElem_mem _, by rw [← e, hy, hh]; simp⟩
theorem apart_end {ln told : List Int} {k : Nat} (hk : told.length ≤ k) (h : apartL ln (told.take k) = true) : apartL ln told = true := by rwa [List.take_of_length_le hk] at h
/-- Who waits and who was told are right. -/
def waitL (ln told : List Int) : Bool := lineL ln && lineL told && apartL ln told
/-- Where two lists lie. -/
structure Na where
  a : Option Addr
  n : Nat
  c : Nat
  a' : Option Addr
  n' : Nat
  c' : Nat
def Na.zero : Na := ⟨none, 0, 0, none, 0, 0⟩
/-- Each list lies within its room. -/
def Na.ok (A : Na) : Prop := A.n ≤ A.c ∧ A.n' ≤ A.c'
theorem cnt_bd'' {x : Int} (h : cnt x = true) : 0 ≤ x ∧ x ≤ 1000000000 := by simpa [cnt] using h
end Go.Proofs.YtffpecdjfcgadaaGreatDoor
namespace Go.Proofs.YtffpecdjfcgadaaGreatDoor
open Go.RowKit Pl Il

theorem szIntS_any (a : Option Addr) (n cap : Nat) (k : Int) (w : World) (hn : n ≤ 9223372036854775807) (k0 : 0 ≤ k) (k1 : k ≤ 1048576) :
    Calls Tryz.prog 45 #[.slice a n cap, .int .i64 k] w fun e w' => e = .returned (.int .i64 (if k < (n : Int) then -1 else k - (n : Int))) ∧ w' = w := by
  by_cases h : k < (n : Int)
  · have h' : k - (n : Int) < 0 := by omega
    go_enter Tryz.func45, Tryz.ntmps45
    go_wp2
    go_ret
    refine ⟨rint ?_, rfl⟩
    simp
  · have h' : ¬ k - (n : Int) < 0 := by omega
    go_enter Tryz.func45, Tryz.ntmps45
    go_wp2
    go_ret
    refine ⟨rint ?_, rfl⟩
    simp
theorem bl_set1 {B : Nat} {w u : World} (h : Below B w u) (N o : Nat) (hN : B ≤ N) (y : Value) : Below B w (u.setCell ⟨N, o, none⟩ y) := h.setCell (p := ⟨N, o, none⟩) hN y
theorem eqIL_self (xs : List Int) : eqL xs xs = true := by simp [eqL]
/-- Which blocks a marking of two lists may have turned: those of its two lists. -/
structure Turned (a : Option Addr) (n : Nat) (a' : Option Addr) (n' : Nat) (w w' : World) : Prop where
  os : w'.os = w.os
  tape : w'.tape = w.tape
  output : w'.output = w.output
  size : w.heap.size ≤ w'.heap.size
  block : ∀ k, k < w.heap.size → (∀ off, 0 < n → a ≠ some ⟨k, off, none⟩) → (∀ off, 0 < n' → a' ≠ some ⟨k, off, none⟩) → w'.heap[k]? = w.heap[k]?
theorem Turned.below {a : Option Addr} {n : Nat} {a' : Option Addr} {n' : Nat} {w w' : World} {B : Nat} (h : Turned a n a' n' w w') (hB : B ≤ w.heap.size) (h1 : n = 0 ∨ ∀ b off, a = some ⟨b, off, none⟩ → B ≤ b) (h2 : n' = 0 ∨ ∀ b off, a' = some ⟨b, off, none⟩ → B ≤ b) : Below B w w' :=
  ⟨h.os, h.tape, h.output, h.size, fun k hk => h.block k (by omega)
    (fun off hp e => by rcases h1 with h1 | h1; · omega
                        · have := h1 _ _ e; omega)
    (fun off hp e => by rcases h2 with h2 | h2; · omega
                        · have := h2 _ _ e; omega)⟩

theorem Il.OwnAt.turned {B : Nat} {w w' : World} {a : Option Addr} {n : Nat} {xs : List Int} {a1 : Option Addr} {n1 : Nat} {a2 : Option Addr} {n2 : Nat} (h : Il.OwnAt B w a n xs) (ht : Turned a1 n1 a2 n2 w w')
    (h1 : n1 = 0 ∨ ∀ b off, a1 = some ⟨b, off, none⟩ → b < B) (h2 : n2 = 0 ∨ ∀ b off, a2 = some ⟨b, off, none⟩ → b < B) : Il.OwnAt B w' a n xs := by
  obtain ⟨⟨hl, hr⟩, ho⟩ := h
  rcases hr with h0 | ⟨b1, off, rfl, hlt, hc⟩
  · exact ⟨⟨hl, .inl h0⟩, .inl h0⟩
  · rcases ho with h0 | ⟨b', off', e, hB, hf⟩
    · exact ⟨⟨hl, .inl h0⟩, .inl h0⟩
    · cases e
      have key : w'.heap[b1]? = w.heap[b1]? := ht.block b1 hlt
        (fun o hp e => by rcases h1 with h1 | h1; · omega
                          · have := h1 _ _ e; omega)
        (fun o hp e => by rcases h2 with h2 | h2; · omega
                          · have := h2 _ _ e; omega)
      refine ⟨⟨hl, .inr ⟨b1, off, rfl, Nat.lt_of_lt_of_le hlt ht.size, fun i hi => ?_⟩⟩, .inr ⟨b1, off, rfl, hB, fun i hi => ?_⟩⟩
      · rw [← hc i hi]; exact World.cell?_of_block key
      · rw [← hf i hi]; exact World.frozen?_of_block key
theorem span_lt {a : Option Addr} {n B C : Nat} (D : Nat) (h : n = 0 ∨ ∀ b off, a = some ⟨b, off, none⟩ → B ≤ b ∧ b < C) (hD : C ≤ D) : n = 0 ∨ ∀ b off, a = some ⟨b, off, none⟩ → b < D := h.imp id fun h b off e => by have := h b off e; omega
theorem span_ge {a : Option Addr} {n B C : Nat} (D : Nat) (h : n = 0 ∨ ∀ b off, a = some ⟨b, off, none⟩ → B ≤ b ∧ b < C) (hD : D ≤ B) : n = 0 ∨ ∀ b off, a = some ⟨b, off, none⟩ → D ≤ b := h.imp id fun h b off e => by have := h b off e; omega
theorem own_span {B : Nat} {w : World} {a : Option Addr} {n : Nat} {xs : List Int} (h : Il.OwnAt B w a n xs) : n = 0 ∨ ∀ b off, a = some ⟨b, off, none⟩ → B ≤ b ∧ b < w.heap.size := by
  rcases h.own with h0 | ⟨b, off, e, hB, _⟩
  · exact .inl h0
  · rcases h.ints.row with h0 | ⟨b2, off2, e2, hl, _⟩
    · exact .inl h0
    · refine .inr fun b1 o1 e1 => ?_
      rw [e] at e1 e2; cases e1; cases e2; exact ⟨hB, hl⟩
/-- The list at a3 lies apart from the two lists . -/
def Apart3 (a1 : Option Addr) (m1 : Nat) (a2 : Option Addr) (m2 : Nat) (a3 : Option Addr) (m3 : Nat) : Prop :=
  m3 = 0 ∨ ∀ b3 off3, a3 = some ⟨b3, off3, none⟩ → (m1 = 0 ∨ ∀ b off, a1 = some ⟨b, off, none⟩ → b3 ≠ b) ∧ (m2 = 0 ∨ ∀ b off, a2 = some ⟨b, off, none⟩ → b3 ≠ b)
theorem Il.OwnAt.turned2 {B : Nat} {w w' : World} {a : Option Addr} {n : Nat} {xs : List Int} {a1 : Option Addr} {n1 : Nat} {a2 : Option Addr} {n2 : Nat} (h : Il.OwnAt B w a n xs) (ht : Turned a1 n1 a2 n2 w w') (hap : Apart3 a1 n1 a2 n2 a n) : Il.OwnAt B w' a n xs := by
  obtain ⟨⟨hl, hr⟩, ho⟩ := h
  rcases hr with h0 | ⟨b1, off, rfl, hlt, hc⟩
  · exact ⟨⟨hl, .inl h0⟩, .inl h0⟩
  · rcases ho with h0 | ⟨b', off', e, hB, hf⟩
    · exact ⟨⟨hl, .inl h0⟩, .inl h0⟩
    · cases e
      rcases hap with h0 | hap
      · exact ⟨⟨hl, .inl h0⟩, .inl h0⟩
      · obtain ⟨h1, h2⟩ := hap b1 off rfl
        have key : w'.heap[b1]? = w.heap[b1]? := ht.block b1 hlt
          (fun o hp e => by rcases h1 with h1 | h1; · omega
                            · exact h1 _ _ e rfl)
          (fun o hp e => by rcases h2 with h2 | h2; · omega
                            · exact h2 _ _ e rfl)
        refine ⟨⟨hl, .inr ⟨b1, off, rfl, Nat.lt_of_lt_of_le hlt ht.size, fun i hi => ?_⟩⟩, .inr ⟨b1, off, rfl, hB, fun i hi => ?_⟩⟩
        · rw [← hc i hi]; exact World.cell?_of_block key
        · rw [← hf i hi]; exact World.frozen?_of_block key
/-- What marking a list of numbers may have turned. -/
abbrev Listed (a : Option Addr) (n : Nat) (w w' : World) : Prop := n = 0 ∧ w' = w ∨ 0 < n ∧ ∃ b off, a = some ⟨b, off, none⟩ ∧ w.grownBy w' (some b)
theorem below_listed {B : Nat} {w w' : World} {a3 : Option Addr} {n3 : Nat} (hl : Listed a3 n3 w w') (hB : B ≤ w.heap.size) (hs : n3 = 0 ∨ ∀ b off, a3 = some ⟨b, off, none⟩ → B ≤ b) : Below B w w' := by
  rcases hl with ⟨_, rfl⟩ | ⟨hp, b, off, rfl, hg⟩
  · exact Below.refl _ _
  · rcases hs with h0 | hs
    · omega
    · exact (Below.refl _ _).grown hg hB (fun j hj => by cases hj; exact hs _ _ rfl)
theorem mark_nn5 (n m : Nat) : ¬ (1 : Int) + (n : Int) + (m : Int) < 0 := by omega
theorem mark_nn4 (n m l : Nat) : ¬ (1 : Int) + (n : Int) + (m : Int) + (l : Int) < 0 := by omega
end Go.Proofs.YtffpecdjfcgadaaGreatDoor
namespace Go.Proofs.YtffpecdjfcgadaaGreatDoor
open Go.RowKit Pl Il

/-- A ring. -/
structure Rv where
  cp : Int
  se : Int
  it : List Tm
  nx : Int
  sb : List Sb
  ln : List Int
  gs : List Int
  cl : Bool
/-- Where its lists lie. -/
structure Rm where
  ia : Option Addr
  i : Nat
  ic : Nat
  sa : Option Addr
  s : Nat
  sc : Nat
  xs : List Sa
  la : Option Addr
  l : Nat
  lc : Nat
  ga : Option Addr
  g : Nat
  gc : Nat
abbrev rC (M : Rm) (v : Rv) : List Value := [.int .i64 v.cp, .int .i64 v.se, .slice M.ia M.i M.ic, .int .i64 v.nx, .slice M.sa M.s M.sc, .slice M.la M.l M.lc, .slice M.ga M.g M.gc, .bool v.cl]
/-- It reads as v. -/
structure RIn (w : World) (M : Rm) (v : Rv) : Prop where
  it : TmAt w M.ia M.i v.it
  sb : SubAt w M.sa M.s M.xs
  sv : svs M.xs = v.sb
  ln : IntsAt w M.la M.l v.ln
  gs : IntsAt w M.ga M.g v.gs
theorem RIn.keep {w w' : World} {M : Rm} {v : Rv} (h : RIn w M v) (hb : Below w.heap.size w w') : RIn w' M v := ⟨h.it.keep hb, h.sb.keep hb, h.sv, h.ln.keep hb, h.gs.keep hb⟩
/-- All its lists are at most k long. -/
structure RLe (M : Rm) (k : Nat) : Prop where
  i : M.i ≤ k
  s : M.s ≤ k
  f : ∀ x, x ∈ M.xs → x.n ≤ k
  l : M.l ≤ k
  g : M.g ≤ k
theorem RLe.mono {M : Rm} {k k' : Nat} (h : RLe M k) (hk : k ≤ k') : RLe M k' := ⟨Nat.le_trans h.i hk, Nat.le_trans h.s hk, fun x hx => Nat.le_trans (h.f x hx) hk, Nat.le_trans h.l hk, Nat.le_trans h.g hk⟩
def SzR (M : Rm) (e : Ending) : Prop := ∃ k : Int, e = .returned (.int .i64 k) ∧ (k < 0 ∨ 0 ≤ k ∧ k ≤ 1048576 ∧ RLe M 1048576)
set_option maxHeartbeats 2000000 in
theorem szRing_any (M : Rm) (v : Rv) (l : Int) (w : World) (hI : RIn w M v) (hm : RLe M 9223372036854775807) (l0 : 0 ≤ l) (l1 : l ≤ 1048576) :
    Calls Tryz.prog 27 #[.agg #[.int .i64 v.cp, .int .i64 v.se, .slice M.ia M.i M.ic, .int .i64 v.nx, .slice M.sa M.s M.sc, .slice M.la M.l M.lc, .slice M.ga M.g M.gc, .bool v.cl], .int .i64 l] w fun e w' => SzR M e ∧ Below w.heap.size w w' := by
  obtain ⟨W0, hW0⟩ : ∃ W, W = w.alloc (.cells #[.int .i64 v.cp, .int .i64 v.se, .slice M.ia M.i M.ic, .int .i64 v.nx, .slice M.sa M.s M.sc, .slice M.la M.l M.lc, .slice M.ga M.g M.gc, .bool v.cl] 43) := ⟨_, rfl⟩
  have b0 : Below w.heap.size w W0 := by rw [hW0]; exact bl_alloc (Below.refl _ _) _
  have X0 : BoxL w.heap.size (rC M v) W0 := by rw [hW0]; exact BoxL.new w (rC M v) _
  have HI := hidOf (hI.keep b0)
  have HM := hidOf hm
  clear hI hm
  go_enter Tryz.func27, Tryz.ntmps27
  go_wp2_with fail
  rw [← hW0]
  clear hW0
  refine (szMsgS_any M.ia M.i M.ic v.it l _ HI.out.it HM.out.i l0 l1).mono ?_
  rintro e w1 ⟨⟨k, rfl, hk⟩, hb1⟩
  have x1 := X0.keep hb1
  have B1 := bl_trans b0 hb1
  have I1 := HI.out.keep hb1
  clear X0 hb1 b0 HI
  rcases hk with hk | ⟨k0, k1, k2⟩
  · go_wp2
    go_ret
    exact ⟨⟨_, rfl, .inl (by omega)⟩, B1⟩
  have hk' : ¬ k < 0 := by omega
  have p4 := x1.cs 4 (by simp)
  simp at p4
  go_wp2_with fail
  refine (szSubS_any M.sa M.s M.sc M.xs k _ I1.sb HM.out.s HM.out.f k0 k1).mono ?_
  rintro e w2 ⟨⟨q, rfl, hq⟩, hb2⟩
  have x2 := x1.keep hb2
  have B2 := bl_trans B1 hb2
  clear x1 hb2 B1 I1 p4 hk'
  rcases hq with hq | ⟨q0, q1, q2, q3⟩
  · go_wp2
    go_ret
    exact ⟨⟨_, rfl, .inl (by omega)⟩, B2⟩
  have hq' : ¬ q < 0 := by omega
  have p5 := x2.cs 5 (by simp)
  have p6 := x2.cs 6 (by simp)
  simp at p5 p6
  have Hq3 := hidOf q3
  clear q3
  go_wp2_with fail
  refine (szIntS_any M.la M.l M.lc q _ HM.out.l q0 q1).mono ?_
  rintro e w3 ⟨rfl, hw3⟩
  obtain rfl : w2 = w3 := hw3.symm
  by_cases hr : q < (M.l : Int)
  · rw [if_pos hr]
    go_wp2
    go_ret
    exact ⟨⟨_, rfl, .inl (by omega)⟩, B2⟩
  rw [if_neg hr]
  have hr' : ¬ q - (M.l : Int) < 0 := by omega
  go_wp2_with fail
  refine (szIntS_any M.ga M.g M.gc (q - (M.l : Int)) _ HM.out.g (by omega) (by omega)).mono ?_
  rintro e w4 ⟨rfl, hw4⟩
  obtain rfl : w2 = w4 := hw4.symm
  by_cases ht : q - (M.l : Int) < (M.g : Int)
  · rw [if_pos ht]
    go_wp2
    go_ret
    exact ⟨⟨_, rfl, .inl (by omega)⟩, B2⟩
  rw [if_neg ht]
  have ht' : ¬ q - (M.l : Int) - (M.g : Int) < 0 := by omega
  go_wp2
  go_ret
  exact ⟨⟨_, rfl, .inr ⟨by omega, by omega, ⟨k2, q2, Hq3.out, by omega, by omega⟩⟩⟩, B2⟩
theorem eqFL_of {xs ys : List Tm} (h : xs = ys) : eqFL xs ys = true := (eqFL_iff xs ys).2 h
theorem eqLR_self (xs : List Int) : eqL xs xs = true := by simp [eqL]
/-- Two that read the same are told to be the same. -/
theorem eqRing_same (M M' : Rm) (v : Rv) (w : World) (hI : RIn w M v) (hJ : RIn w M' v) (hm : RLe M 2097152) (hm' : RLe M' 2097152) :
    Calls Tryz.prog 41 #[.agg #[.int .i64 v.cp, .int .i64 v.se, .slice M.ia M.i M.ic, .int .i64 v.nx, .slice M.sa M.s M.sc, .slice M.la M.l M.lc, .slice M.ga M.g M.gc, .bool v.cl], .agg #[.int .i64 v.cp, .int .i64 v.se, .slice M'.ia M'.i M'.ic, .int .i64 v.nx, .slice M'.sa M'.s M'.sc, .slice M'.la M'.l M'.lc, .slice M'.ga M'.g M'.gc, .bool v.cl]] w fun e w' => e = .returned (.bool true) ∧ Below w.heap.size w w' := by
  obtain ⟨W0, hW0⟩ : ∃ W, W = (w.alloc (.cells #[.int .i64 v.cp, .int .i64 v.se, .slice M.ia M.i M.ic, .int .i64 v.nx, .slice M.sa M.s M.sc, .slice M.la M.l M.lc, .slice M.ga M.g M.gc, .bool v.cl] 53)).alloc (.cells #[.int .i64 v.cp, .int .i64 v.se, .slice M'.ia M'.i M'.ic, .int .i64 v.nx, .slice M'.sa M'.s M'.sc, .slice M'.la M'.l M'.lc, .slice M'.ga M'.g M'.gc, .bool v.cl] 53) := ⟨_, rfl⟩
  have b0 : Below w.heap.size w W0 := by rw [hW0]; exact bl_alloc (bl_alloc (Below.refl _ _) _) _
  have X0 : BoxL w.heap.size (rC M v) W0 := by rw [hW0]; exact (BoxL.new w (rC M v) _).alloc _
  have Y0 : BoxL (w.heap.size + 1) (rC M' v) W0 := by
    rw [hW0]
    have h := BoxL.new (w.alloc (.cells #[.int .i64 v.cp, .int .i64 v.se, .slice M.ia M.i M.ic, .int .i64 v.nx, .slice M.sa M.s M.sc, .slice M.la M.l M.lc, .slice M.ga M.g M.gc, .bool v.cl] 53)) (rC M' v) 53
    simpa using h
  have hl : M.s = M'.s := by
    have h1 := hI.sb.len
    have h2 := hJ.sb.len
    have h3 := congrArg List.length (hI.sv.trans hJ.sv.symm)
    simp [svs] at h3
    omega
  have HI := hidOf (hI.keep b0)
  have HJ := hidOf (hJ.keep b0)
  have HM := hidOf hm
  have HM' := hidOf hm'
  have HSl := hidOf hl
  clear hI hJ hm hm' hl
  go_enter Tryz.func41, Tryz.ntmps41
  go_wp2_with fail
  rw [← hW0]
  clear hW0
  refine (eqMsgS_any M.ia M'.ia M.i M'.i M.ic M'.ic v.it v.it _ HI.out.it HJ.out.it HM.out.i HM'.out.i).mono ?_
  rintro e w1 ⟨rfl, hb1⟩
  rw [eqFL_self]
  have x1 := X0.keep hb1
  have y1 := Y0.keep hb1
  have B1 := bl_trans b0 hb1
  have I1 := HI.out.keep hb1
  have J1 := HJ.out.keep hb1
  clear X0 Y0 hb1 b0 HI HJ
  have p3 := x1.cs 3 (by simp)
  have p4 := x1.cs 4 (by simp)
  have q3 := y1.cs 3 (by simp)
  have q4 := y1.cs 4 (by simp)
  simp at p3 p4 q3 q4
  have HC := eqSubS_same M.sa M'.sa M.s M.sc M'.sc M.xs M'.xs w1 I1.sb (by rw [HSl.out]; exact J1.sb) (I1.sv.trans J1.sv.symm) HM.out.s HM.out.f HM'.out.f
  rw [← HSl.out] at q4
  go_wp2_with fail
  refine HC.mono ?_
  rintro e w2 ⟨rfl, hb2⟩
  have x2 := x1.keep hb2
  have y2 := y1.keep hb2
  have B2 := bl_trans B1 hb2
  have I2 := I1.keep hb2
  have J2 := J1.keep hb2
  clear x1 y1 hb2 B1 I1 J1 p3 p4 q3 q4 HC
  have p5 := x2.cs 5 (by simp)
  have q5 := y2.cs 5 (by simp)
  simp at p5 q5
  go_wp2_with fail
  refine (eqIntS_any M.la M'.la M.l M'.l M.lc M'.lc v.ln v.ln _ I2.ln J2.ln HM.out.l HM'.out.l).mono ?_
  rintro e w3 ⟨rfl, hb3⟩
  rw [eqLR_self]
  have x3 := x2.keep hb3
  have y3 := y2.keep hb3
  have B3 := bl_trans B2 hb3
  have I3 := I2.keep hb3
  have J3 := J2.keep hb3
  clear x2 y2 hb3 B2 I2 J2 p5 q5
  have p6 := x3.cs 6 (by simp)
  have q6 := y3.cs 6 (by simp)
  simp at p6 q6
  go_wp2_with fail
  refine (eqIntS_any M.ga M'.ga M.g M'.g M.gc M'.gc v.gs v.gs _ I3.gs J3.gs HM.out.g HM'.out.g).mono ?_
  rintro e w4 ⟨rfl, hb4⟩
  rw [eqLR_self]
  have x4 := x3.keep hb4
  have y4 := y3.keep hb4
  have B4 := bl_trans B3 hb4
  clear x3 y3 hb4 B3 I3 J3 p6 q6
  have p7 := x4.cs 7 (by simp)
  have q7 := y4.cs 7 (by simp)
  simp at p7 q7
  go_wp2
  go_ret
  exact ⟨rfl, B4⟩
end Go.Proofs.YtffpecdjfcgadaaGreatDoor
