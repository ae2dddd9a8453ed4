/-
  Walks of the laws' own helpers on slices of topics: made anew, compared.
-/
import Derived.Test.YtffpecdjfcgadaaGreatDoorZTm15
namespace Go.Proofs.YtffpecdjfcgadaaGreatDoor
open Go.RowKit Pl Il

theorem infoTp : (Tryz.prog.info? 55).map (fun i => (i.zero, i.size, i.bytes)) = some (some (.agg #[.string ⟨#[]⟩, .int .i64 0, .int .i64 0, .slice none 0 0, .int .i64 0, .slice none 0 0, .slice none 0 0, .slice none 0 0, .bool false]), 9, 144) := by kernel_rfl
theorem make_tops (n : Nat) (hn : n ≤ 2097152) (w : World) : (Instr.makeSlice 29 (.int .i64 (n : Int)) (.int .i64 (n : Int))).run Tryz.prog w = .ok (.slice (some ⟨w.heap.size, 0, none⟩) n n) (w.alloc (.cells (madeCells (Value.agg #[.string ⟨#[]⟩, .int .i64 0, .int .i64 0, .slice none 0 0, .int .i64 0, .slice none 0 0, .slice none 0 0, .slice none 0 0, .bool false]).cells (n * 9)) 55)) := by
  obtain ⟨i, hi, hz0, hz1, hz2⟩ := info_parts infoTp
  have := run_make (P := Tryz.prog) w 29 55 i (.agg #[.string ⟨#[]⟩, .int .i64 0, .int .i64 0, .slice none 0 0, .int .i64 0, .slice none 0 0, .slice none 0 0, .slice none 0 0, .bool false]) Tryz.underlying29 hi hz0 .i64 .i64 (n : Int) (n : Int) (by omega) (by omega) (by rw [hz2]; omega) (by omega)
  rw [hz1] at this
  simpa using this
/-- A list was made anew: the same topics, each with lists of its own. -/
def ToT (w : World) (n : Nat) (xs : List Ta) (e : Ending) (w' : World) : Prop := ∃ ys : List Ta, e = .returned (.slice (some ⟨w.heap.size, 0, none⟩) n n) ∧ TopAt w' (some ⟨w.heap.size, 0, none⟩) n ys ∧ tvs ys = tvs xs ∧ (∀ y, y ∈ ys → RCap y.M ∧ ∃ x, x ∈ xs ∧ ∀ k, RLe x.M k → RLe y.M k) ∧ Below w.heap.size w w'
theorem ToT.le {xs ys : List Ta} {k : Nat} (h : ∀ y, y ∈ ys → RCap y.M ∧ ∃ x, x ∈ xs ∧ ∀ k, RLe x.M k → RLe y.M k) (hx : TLe xs k) : TLe ys k := fun y hy => by
  obtain ⟨_, x, hm, hk⟩ := h y hy
  exact hk k (hx x hm)
set_option maxHeartbeats 4000000 in
theorem toTopicS_any (a : Option Addr) (n cap : Nat) (xs : List Ta) (w : World) (hI : TopAt w a n xs) (hn : n ≤ 2097152) (hf : TLe xs 2097152) :
    Calls Tryz.prog 7 #[.slice a n cap] w fun e w' => ToT w n xs e w' := by
  have hmk := make_tops n hn
  have hS := hidOf (FillT.start w n 55 (Value.agg #[.string ⟨#[]⟩, .int .i64 0, .int .i64 0, .slice none 0 0, .int .i64 0, .slice none 0 0, .slice none 0 0, .slice none 0 0, .bool false]).cells)
  obtain ⟨hlen, hnm, hsh, rfl | ⟨b, off, rfl, hb, hcell⟩⟩ := hI
  · have hx : xs = [] := List.length_eq_zero_iff.1 hlen
    subst hx
    have hmk0 : ∀ w : World, (Instr.makeSlice 29 (.int .i64 0) (.int .i64 0)).run Tryz.prog w = .ok (.slice (some ⟨w.heap.size, 0, none⟩) 0 0) (w.alloc (.cells (madeCells (Value.agg #[.string ⟨#[]⟩, .int .i64 0, .int .i64 0, .slice none 0 0, .int .i64 0, .slice none 0 0, .slice none 0 0, .slice none 0 0, .bool false]).cells (0 * 9)) 55)) := fun w => make_tops 0 (by omega) w
    clear hmk
    have hmk := hmk0
    clear hmk0 hsh hf hlen hnm
    go_enter Tryz.func7, Tryz.ntmps7
    go_wp2
    go_loopw [4] (fun i wr => i = .int .i64 0 ∧ FillT w w.heap.size 0 [] wr) (fun _ _ => 0)
    case atStart => exact ⟨rfl, hS.out⟩
    case round =>
      obtain ⟨rfl, hF⟩ := hrel
      clear hS hmk
      go_wp2
      go_ret
      exact ⟨[], rfl, hF.top rfl, rfl, fun y hy => (by cases hy), hF.below⟩
  · have HS := hidOf hsh
    have HNm := hidOf hnm
    have HFn := hidOf hf
    clear hsh hf hnm
    go_enter Tryz.func7, Tryz.ntmps7
    go_wp2_with fail
    go_loopw [4] (fun i wr => ∃ ys : List Ta, ys.length ≤ n ∧ i = .int .i64 (ys.length : Nat) ∧ tvs ys = (tvs xs).take ys.length ∧ (∀ y, y ∈ ys → RCap y.M ∧ ∃ x, x ∈ xs ∧ ∀ k, RLe x.M k → RLe y.M k) ∧ FillT w w.heap.size n ys wr) (fun i _ => n - (intOf i).toNat)
    case atStart => exact ⟨[], Nat.zero_le _, rfl, rfl, fun y hy => (by cases hy), hS.out⟩
    case round =>
      rename_i wr
      obtain ⟨ys, hk, rfl, hsv, hcp, hF⟩ := hrel
      have HL := hidOf hlen
      have HSv := hidOf hsv
      have HCp := hidOf hcp
      clear hS hmk hlen hsv hcp
      generalize hkk : ys.length = k at *
      have HK := hidOf hkk
      clear hkk
      by_cases hlt : k < n
      · obtain ⟨q0, q1, q2, q3, q4, q5, q6, q7, q8⟩ := (hcell k hlt).below hF.below hb
        have hmem := tg_mem (l := xs) (k := k) (by rw [HL.out]; exact hlt)
        have HC := hidOf (toTopic_any (tg xs k) wr ((HS.out _ hmem).keep hF.below) (HFn.out _ hmem))
        have HM := hidOf (And.intro hmem (HNm.out _ hmem))
        obtain ⟨z, hz⟩ : ∃ z, tg xs k = z := ⟨_, rfl⟩
        rw [hz] at q0 q1 q2 q3 q4 q5 q6 q7 q8 HC HM
        have HZ := hidOf hz
        have HF := hidOf hF
        clear hz hcell hmem hF
        go_wp2_with fail
        refine HC.out.mono ?_
        rintro e w1 ⟨M', rfl, ho, hle, hcap, hb1⟩
        have hF1 := HF.out.keep hb1
        have hfr := hF1.fr
        have hex := hF1.cells k hlt
        obtain ⟨v0, hv0⟩ := hex 0 (by omega)
        obtain ⟨v1, hv1⟩ := hex 1 (by omega)
        obtain ⟨v2, hv2⟩ := hex 2 (by omega)
        obtain ⟨v3, hv3⟩ := hex 3 (by omega)
        obtain ⟨v4, hv4⟩ := hex 4 (by omega)
        obtain ⟨v5, hv5⟩ := hex 5 (by omega)
        obtain ⟨v6, hv6⟩ := hex 6 (by omega)
        obtain ⟨v7, hv7⟩ := hex 7 (by omega)
        obtain ⟨v8, hv8⟩ := hex 8 (by omega)
        have hT := hF1.step (by rw [HK.out]; exact hlt) ⟨z.nm, M', z.v⟩ (ho.mono (by have h1 := HF.out.lt; have h2 := HF.out.eq; omega)) HM.out.2
        rw [HK.out] at hT
        have HT := hidOf hT
        have HLe := hidOf hle
        have HCa := hidOf hcap
        simp only [setL] at HT
        simp only [Nat.add_zero] at hv0
        clear hT hF1 HF HC q0 q1 q2 q3 q4 q5 q6 q7 q8 hb1 ho hex hle hcap
        go_wp2
        go_roundw
        case rel =>
          refine ⟨ys ++ [⟨z.nm, M', z.v⟩], by simp; have := HK.out; omega, by simp; have := HK.out; omega, ?_, ?_, HT.out⟩
          · have hk2 : k < (tvs xs).length := by simp [tvs]; have := HL.out; omega
            have e1 : tvs (ys ++ [⟨z.nm, M', z.v⟩]) = tvs ys ++ [(z.nm, z.v)] := by simp [tvs]
            rw [e1, HSv.out]
            simp only [List.length_append, List.length_singleton, HK.out]
            rw [List.take_succ_eq_append_getElem hk2]
            congr 1
            have hk3 : k < xs.length := by have := HL.out; omega
            have : (tvs xs)[k] = (z.nm, z.v) := by simp only [tvs, List.getElem_map]; rw [← tg_eq hk3, HZ.out]
            rw [this]
          · intro y hy
            rcases List.mem_append.1 hy with hy | hy
            · exact HCp.out y hy
            · obtain rfl : y = ⟨z.nm, M', z.v⟩ := by simpa using hy
              exact ⟨HCa.out, z, HM.out.1, HLe.out⟩
        case measure => simp [intOf]; have := HK.out; omega
      · have hkn : k = n := by omega
        clear hcell
        go_wp2
        go_ret
        refine ⟨ys, rfl, hF.top (by rw [HK.out]; exact hkn), ?_, HCp.out, hF.below⟩
        rw [HSv.out, List.take_of_length_le (by simp [tvs]; have := HL.out; omega)]
set_option maxHeartbeats 2000000 in
theorem eqTopic_same (nm : ByteArray) (v : Rv) (M M' : Rm) (w : World) (hI : RIn w M v) (hJ : RIn w M' v) (hm : RLe M 2097152) (hm' : RLe M' 2097152) :
    Calls Tryz.prog 25 #[.agg #[.string nm, .int .i64 v.cp, .int .i64 v.se, .slice M.ia M.i M.ic, .int .i64 v.nx, .slice M.sa M.s M.sc, .slice M.la M.l M.lc, .slice M.ga M.g M.gc, .bool v.cl], .agg #[.string nm, .int .i64 v.cp, .int .i64 v.se, .slice M'.ia M'.i M'.ic, .int .i64 v.nx, .slice M'.sa M'.s M'.sc, .slice M'.la M'.l M'.lc, .slice M'.ga M'.g M'.gc, .bool v.cl]] w fun e w' => e = .returned (.bool true) ∧ Below w.heap.size w w' := by
  obtain ⟨W0, hW0⟩ : ∃ W, W = (w.alloc (.cells #[.string nm, .int .i64 v.cp, .int .i64 v.se, .slice M.ia M.i M.ic, .int .i64 v.nx, .slice M.sa M.s M.sc, .slice M.la M.l M.lc, .slice M.ga M.g M.gc, .bool v.cl] 55)).alloc (.cells #[.string nm, .int .i64 v.cp, .int .i64 v.se, .slice M'.ia M'.i M'.ic, .int .i64 v.nx, .slice M'.sa M'.s M'.sc, .slice M'.la M'.l M'.lc, .slice M'.ga M'.g M'.gc, .bool v.cl] 55) := ⟨_, rfl⟩
  have B0 : Below w.heap.size w W0 := by rw [hW0]; exact bl_alloc (bl_alloc (Below.refl _ _) _) _
  have x0 : BoxL w.heap.size [.string nm, .int .i64 v.cp, .int .i64 v.se, .slice M.ia M.i M.ic, .int .i64 v.nx, .slice M.sa M.s M.sc, .slice M.la M.l M.lc, .slice M.ga M.g M.gc, .bool v.cl] W0 := by rw [hW0]; exact (BoxL.new w [.string nm, .int .i64 v.cp, .int .i64 v.se, .slice M.ia M.i M.ic, .int .i64 v.nx, .slice M.sa M.s M.sc, .slice M.la M.l M.lc, .slice M.ga M.g M.gc, .bool v.cl] _).alloc _
  have x1 : BoxL (w.heap.size + 1) [.string nm, .int .i64 v.cp, .int .i64 v.se, .slice M'.ia M'.i M'.ic, .int .i64 v.nx, .slice M'.sa M'.s M'.sc, .slice M'.la M'.l M'.lc, .slice M'.ga M'.g M'.gc, .bool v.cl] W0 := by
    rw [hW0]
    have h := BoxL.new (w.alloc (.cells #[.string nm, .int .i64 v.cp, .int .i64 v.se, .slice M.ia M.i M.ic, .int .i64 v.nx, .slice M.sa M.s M.sc, .slice M.la M.l M.lc, .slice M.ga M.g M.gc, .bool v.cl] 55)) [.string nm, .int .i64 v.cp, .int .i64 v.se, .slice M'.ia M'.i M'.ic, .int .i64 v.nx, .slice M'.sa M'.s M'.sc, .slice M'.la M'.l M'.lc, .slice M'.ga M'.g M'.gc, .bool v.cl] 55
    simpa using h
  have HC := hidOf (eqRing_same M M' v W0 (hI.keep B0) (hJ.keep B0) hm hm')
  obtain ⟨p0, p1, p2, p3, p4, p5, p6, p7, p8⟩ := x0.c9T
  obtain ⟨q0, q1, q2, q3, q4, q5, q6, q7, q8⟩ := x1.c9T
  clear hI hJ x0 x1
  go_enter Tryz.func25, Tryz.ntmps25
  go_upto_region 1 with fail
  rw [← hW0]
  clear hW0
  go_wp2_with fail
  refine (HC.out).mono ?_
  rintro e w1 ⟨rfl, hb1⟩
  have hB1 := bl_trans B0 hb1
  clear hb1 HC B0 p0 p1 p2 p3 p4 p5 p6 p7 p8 q0 q1 q2 q3 q4 q5 q6 q7 q8
  go_wp2
  go_ret
  exact ⟨rfl, hB1⟩
/-- What the comparing of two elements holds on to. -/
abbrev EqT (b o b' o' : Nat) (x y : Ta) (w0 w : World) : Prop :=
  w.cell? ⟨b, o, none⟩ = some (.string x.nm) ∧ w.cell? ⟨b, o + 1, none⟩ = some (.int .i64 x.v.cp) ∧ w.cell? ⟨b, o + 2, none⟩ = some (.int .i64 x.v.se) ∧ w.cell? ⟨b, o + 3, none⟩ = some (.slice x.M.ia x.M.i x.M.ic) ∧ w.cell? ⟨b, o + 4, none⟩ = some (.int .i64 x.v.nx) ∧ w.cell? ⟨b, o + 5, none⟩ = some (.slice x.M.sa x.M.s x.M.sc) ∧ w.cell? ⟨b, o + 6, none⟩ = some (.slice x.M.la x.M.l x.M.lc) ∧ w.cell? ⟨b, o + 7, none⟩ = some (.slice x.M.ga x.M.g x.M.gc) ∧ w.cell? ⟨b, o + 8, none⟩ = some (.bool x.v.cl) ∧ w.cell? ⟨b', o', none⟩ = some (.string x.nm) ∧ w.cell? ⟨b', o' + 1, none⟩ = some (.int .i64 x.v.cp) ∧ w.cell? ⟨b', o' + 2, none⟩ = some (.int .i64 x.v.se) ∧ w.cell? ⟨b', o' + 3, none⟩ = some (.slice y.M.ia y.M.i y.M.ic) ∧ w.cell? ⟨b', o' + 4, none⟩ = some (.int .i64 x.v.nx) ∧ w.cell? ⟨b', o' + 5, none⟩ = some (.slice y.M.sa y.M.s y.M.sc) ∧ w.cell? ⟨b', o' + 6, none⟩ = some (.slice y.M.la y.M.l y.M.lc) ∧ w.cell? ⟨b', o' + 7, none⟩ = some (.slice y.M.ga y.M.g y.M.gc) ∧ w.cell? ⟨b', o' + 8, none⟩ = some (.bool x.v.cl) ∧ Below w0.heap.size w0 w
theorem EqT.keep {b o b' o' : Nat} {x y : Ta} {w0 w w' : World} (h : EqT b o b' o' x y w0 w) (q : Below w.heap.size w w') : EqT b o b' o' x y w0 w' := by
  obtain ⟨h0, h1, h2, h3, h4, h5, h6, h7, h8, k0, k1, k2, k3, k4, k5, k6, k7, k8, hb⟩ := h
  exact ⟨cellK h0 q, cellK h1 q, cellK h2 q, cellK h3 q, cellK h4 q, cellK h5 q, cellK h6 q, cellK h7 q, cellK h8 q, cellK k0 q, cellK k1 q, cellK k2 q, cellK k3 q, cellK k4 q, cellK k5 q, cellK k6 q, cellK k7 q, cellK k8 q, bl_trans hb q⟩
theorem EqT.drew {b o b' o' : Nat} {x y : Ta} {w0 w : World} (h : EqT b o b' o' x y w0 w) : EqT b o b' o' x y w0 w.drew := h.keep (Below.refl _ _).drew
theorem EqT.bel {b o b' o' : Nat} {x y : Ta} {w0 w : World} (h : EqT b o b' o' x y w0 w) : Below w0.heap.size w0 w := h.2.2.2.2.2.2.2.2.2.2.2.2.2.2.2.2.2.2
theorem tvs_at {xs ys : List Ta} (h : tvs xs = tvs ys) {k : Nat} (hk : k < xs.length) : (tg ys k).nm = (tg xs k).nm ∧ (tg ys k).v = (tg xs k).v := by
  have hl : xs.length = ys.length := by have := congrArg List.length h; simpa [tvs] using this
  rw [tg_eq hk, tg_eq (by omega)]
  have h1 : (tvs xs)[k]? = (tvs ys)[k]? := by rw [h]
  simp only [tvs, List.getElem?_map, List.getElem?_eq_getElem hk, List.getElem?_eq_getElem (show k < ys.length by omega), Option.map_some] at h1
  injection h1 with h1
  injection h1 with h1 h2
  exact ⟨h1.symm, h2.symm⟩
set_option maxHeartbeats 4000000 in
theorem eqTopicS_same (a a' : Option Addr) (n cap cap' : Nat) (xs ys : List Ta) (w : World) (hI : TopAt w a n xs) (hJ : TopAt w a' n ys) (hs : tvs xs = tvs ys) (hn : n ≤ 2097152) (hf : TLe xs 2097152) (hf' : TLe ys 2097152) :
    Calls Tryz.prog 10 #[.slice a n cap, .slice a' n cap'] w fun e w' => e = .returned (.bool true) ∧ Below w.heap.size w w' := by
  by_cases h0 : n = 0
  · subst h0
    clear hI hJ hf hf' hs
    go_enter Tryz.func10, Tryz.ntmps10
    go_wp2
    go_loop [5] (fun i => i = .int .i64 0) (fun _ => 0)
    case atStart => rfl
    case round =>
      subst hrel
      go_wp2
      go_ret
      exact ⟨rfl, Below.refl _ _⟩
  · obtain ⟨hlen, hnm, hfil, hr | ⟨b, off, rfl, hb, hcell⟩⟩ := hI
    · omega
    obtain ⟨hlen', hnm', hfil', hr | ⟨b', off', rfl, hb', hcell'⟩⟩ := hJ
    · omega
    have HL := hidOf hlen
    have HL' := hidOf hlen'
    have HS := hidOf hs
    have HFi := hidOf hfil
    have HFi' := hidOf hfil'
    have HFn := hidOf hf
    have HFn' := hidOf hf'
    clear hlen hlen' hs hfil hfil' hf hf' hnm hnm'
    go_enter Tryz.func10, Tryz.ntmps10
    go_wp2
    go_loopw [5] (fun i wr => ∃ k : Nat, k ≤ n ∧ i = .int .i64 k ∧ Below w.heap.size w wr) (fun i _ => n - (intOf i).toNat)
    case atStart => exact ⟨0, Nat.zero_le _, rfl, Below.refl _ _⟩
    case round =>
      rename_i wr
      obtain ⟨k, hk, rfl, hB⟩ := hrel
      by_cases hlt : k < n
      · have hc := (hcell k hlt).below hB hb
        have hc' := (hcell' k hlt).below hB hb'
        have hse := tvs_at HS.out (k := k) (by rw [HL.out]; exact hlt)
        have hm := tg_mem (l := xs) (k := k) (by rw [HL.out]; exact hlt)
        have hm' := tg_mem (l := ys) (k := k) (by rw [HL'.out]; exact hlt)
        have t1 := HFi.out _ hm
        have t2 := HFi'.out _ hm'
        have n1 := HFn.out _ hm
        have n2 := HFn'.out _ hm'
        obtain ⟨x, hx⟩ : ∃ x, tg xs k = x := ⟨_, rfl⟩
        obtain ⟨y, hy⟩ : ∃ y, tg ys k = y := ⟨_, rfl⟩
        rw [hx] at hc t1 n1 hse
        rw [hy] at hc' t2 n2 hse
        rw [hse.2] at t2
        have hS : EqT b (off + k * 9) b' (off' + k * 9) x y w wr := ⟨hc.c0, hc.c1, hc.c2, hc.c3, hc.c4, hc.c5, hc.c6, hc.c7, hc.c8, by rw [← hse.1]; exact hc'.c0, by rw [← hse.2]; exact hc'.c1, by rw [← hse.2]; exact hc'.c2, hc'.c3, by rw [← hse.2]; exact hc'.c4, hc'.c5, hc'.c6, hc'.c7, by rw [← hse.2]; exact hc'.c8, hB⟩
        have HC := hidOf (fun (u : World) (hu : Below w.heap.size w u) => eqTopic_same x.nm x.v x.M y.M u (t1.keep hu) (t2.keep hu) n1 n2)
        have hki : (0 : Int) ≤ (k : Int) ∧ (k : Int) < (n : Int) := by omega
        clear hcell hcell' hx hy hB hc hc' hse hm hm' t1 t2 n1 n2
        go_wp2_with fail
        go_region_held3 (fun w' => EqT b (off + k * 9) b' (off' + k * 9) x y w w') (first | (exact hS.drew) | (exact EqT.keep (by assumption) (by assumption))) (first | (go_at_call 25; refine (HC.out _ ?hu).mono ?_; (case hu => exact EqT.bel (by assumption)); rintro e w1 ⟨rfl, hb1⟩))
        rename_i hT
        have hB2 := EqT.bel hT
        clear hS hT HC hb1
        go_wp2
        go_roundw
        case rel => exact ⟨k + 1, by omega, by go_num, hB2⟩
        case measure => simp [intOf]; omega
      · clear hcell hcell'
        go_wp2
        go_ret
        exact ⟨rfl, hB⟩
end Go.Proofs.YtffpecdjfcgadaaGreatDoor
