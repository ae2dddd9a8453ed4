/-
  The specification's copy of a list of topics.
  The program's copies: subscribers.
  The program's lists once more: a copy, Leave and Wake, each list that is handed back a row of its own.
-/
import Derived.Test.YtojajaibeifhoaaGreatDoorZTo18
import Derived.Test.YtojajaibeifhoaaGreatDoorZTo22
import Derived.Test.YtojajaibeifhoaaGreatDoorZTo24
import Derived.Deep.RegionHeld3
import Derived.Test.YtojajaibeifhoaaGreatDoorZTo17
import Derived.Laws.OwnMore
import Derived.Test.YtojajaibeifhoaaGreatDoorZTo16
namespace Go.Proofs.YtojajaibeifhoaaGreatDoor
open Go.RowKit Pl Il

abbrev TcS (w : World) (b o : Nat) (x : Ta) (u : World) : Prop := u.cell? ⟨b, o, none⟩ = some (.string x.nm) ∧ u.cell? ⟨b, o + 1, none⟩ = some (.int .i64 x.v.cp) ∧ u.cell? ⟨b, o + 2, none⟩ = some (.int .i64 x.v.se) ∧ u.cell? ⟨b, o + 3, none⟩ = some (.slice x.M.ia x.M.i x.M.ic) ∧ u.cell? ⟨b, o + 4, none⟩ = some (.int .i64 x.v.nx) ∧ u.cell? ⟨b, o + 5, none⟩ = some (.slice x.M.sa x.M.s x.M.sc) ∧ u.cell? ⟨b, o + 6, none⟩ = some (.slice x.M.la x.M.l x.M.lc) ∧ u.cell? ⟨b, o + 7, none⟩ = some (.slice x.M.ga x.M.g x.M.gc) ∧ u.cell? ⟨b, o + 8, none⟩ = some (.bool x.v.cl) ∧ Below w.heap.size w u
theorem TcS.mk' {w : World} {b o : Nat} {x : Ta} {u : World} (hc : TCell w b o x) (hb : b < w.heap.size) (hB : Below w.heap.size w u) : TcS w b o x u := by
  have h := hc.below hB hb
  exact ⟨h.c0, h.c1, h.c2, h.c3, h.c4, h.c5, h.c6, h.c7, h.c8, hB⟩
theorem TcS.bel {w : World} {b o : Nat} {x : Ta} {u : World} (h : TcS w b o x u) : Below w.heap.size w u := h.2.2.2.2.2.2.2.2.2
/-- A list was copied: the same topics, each ring with lists of its own. -/
def CpT (w : World) (n : Nat) (xs : List Ta) (e : Ending) (w' : World) : Prop := ∃ (a : Option Addr) (c : Nat) (ys : List Ta), e = .returned (.slice a n c) ∧ TRow w.heap.size w' a n c ys ∧ tvs ys = tvs xs ∧ (∀ y, y ∈ ys → ∃ x, x ∈ xs ∧ ∀ k, RLe x.M k → RLe y.M k) ∧ Below w.heap.size w w'
set_option maxRecDepth 100000 in
set_option maxHeartbeats 8000000 in
theorem l11Copy_any (a : Option Addr) (n c : Nat) (xs : List Ta) (w : World) (hI : TopAt w a n xs) (hn : n ≤ 1048576) (hm : TLe xs 2097152) :
    Calls Tryz.prog 44 #[.slice a n c] w fun e w' => CpT w n xs e w' := by
  have HL := hidOf hI.len
  have HI := hidOf hI
  have HLe := hidOf hm
  have HN := hidOf hn
  have hT0 : TRow w.heap.size (w.alloc (.cells #[] 40)) (some ⟨w.heap.size, 0, none⟩) 0 0 [] := ⟨row_empty w _ 9, fun x hx => (by cases hx), fun x hx => (by cases hx), fun q _ hm => (by cases hm), List.Pairwise.nil⟩
  have HT0 := hidOf hT0
  clear hI hm hT0
  go_enter Tryz.func44, Tryz.ntmps44
  go_wp2_with fail
  go_loopw [3, 4] (fun o i wr => ∃ (k : Nat) (oa : Option Addr) (oc : Nat) (ys : List Ta), k ≤ n ∧ i = .int .i64 k ∧ o = .slice oa k oc ∧ TRow w.heap.size wr oa k oc ys ∧ tvs ys = (tvs xs).take k ∧ (∀ y, y ∈ ys → ∃ x, x ∈ xs ∧ ∀ k, RLe x.M k → RLe y.M k) ∧ Below w.heap.size w wr) (fun _ i _ => n - (intOf i).toNat)
  case atStart => exact ⟨0, _, 0, [], Nat.zero_le _, rfl, rfl, HT0.out, rfl, fun y hy => (by cases hy), bl_alloc (Below.refl _ _) _⟩
  case round =>
    rename World => wr
    obtain ⟨k, oa, oc, ys, hk, rfl, rfl, hF, hsv, hrl, hB⟩ := hrel
    clear HT0
    have HF := hidOf hF
    have HSv := hidOf hsv
    have HRl := hidOf hrl
    have HB := hidOf hB
    clear hF hsv hrl hB
    by_cases hlt : k < n
    · have hki : (k : Int) < (n : Int) := by omega
      have hwk : IntKind.i64.wrap ((k : Int) + 1) = (k : Int) + 1 := by have h := HN.out; rw [IntKind.wrap_i64]; omega
      have hkl : k < xs.length := by rw [HL.out]; exact hlt
      obtain hr | ⟨b, off, rfl, hb, hcell⟩ := HI.out.row
      · omega
      have hmem := tg_mem hkl
      have htc := hcell k hlt
      obtain ⟨z, hz⟩ : ∃ z, tg xs k = z := ⟨_, rfl⟩
      rw [hz] at hmem htc
      have HZ := hidOf hz
      have HM := hidOf (And.intro hmem (HI.out.nms z hmem))
      have HTc := hidOf (And.intro htc hb)
      have HC := hidOf (fun (u : World) (hu : Below w.heap.size w u) => l9Copy_any z.M z.v u ((HI.out.rin z hmem).keep hu) (HLe.out z hmem))
      have HKl := hidOf hkl
      have hS := TcS.mk' htc hb HB.out
      have hSd := TcS.mk' htc hb (bl_trans HB.out (Below.refl _ _).drew)
      clear hz hmem htc hcell hkl
      go_wp2_with fail
      refine wp_region_noPanic ?_
      refine wp_region_held_drew (S := fun u => TcS w b (off + k * 9) z u) (by kernel_rfl) hSd (fun hHeld => ?_)
      refine wpAnyH_take (i := 0) (v := ?_) rfl (by kernel_rfl) (by kernel_rfl) (by kernel_rfl) (fun _ _ _ h => h) (Or.inl ⟨by rfl, ?_⟩) (by assumption) ?_
      case refine_2 => (intro w hSw; (try dsimp only at hSw); go_simp; try with_reducible rfl)
      simp only [Act.put, List.getElem_toArray, List.getElem_cons_zero, List.setIfInBounds_toArray, List.set_cons_zero, List.set_cons_succ]
      refine wpAnyH_take (i := 1) (v := ?_) rfl (by kernel_rfl) (by kernel_rfl) (by kernel_rfl) (fun _ _ _ h => h) (Or.inl ⟨by rfl, ?_⟩) (by assumption) ?_
      case refine_2 => (intro w hSw; (try dsimp only at hSw); go_simp; try with_reducible rfl)
      simp only [Act.put, zGA, zG0, zGC, zSA, zS0, zSC]
      refine wpAnyH_take (i := 2) (v := ?_) rfl (by kernel_rfl) (by kernel_rfl) (by kernel_rfl) (fun _ _ _ h => h) (Or.inl ⟨by rfl, ?_⟩) (by assumption) ?_
      case refine_2 => (intro w hSw; (try dsimp only at hSw); go_simp; try with_reducible rfl)
      simp only [Act.put, zGA, zG0, zGC, zSA, zS0, zSC]
      refine wpAnyH_take (i := 3) (v := ?_) rfl (by kernel_rfl) (by kernel_rfl) (by kernel_rfl) (fun _ _ _ h => h) (Or.inl ⟨by rfl, ?_⟩) (by assumption) ?_
      case refine_2 => (intro w hSw; (try dsimp only at hSw); go_simp; try with_reducible rfl)
      simp only [Act.put, zGA, zG0, zGC, zSA, zS0, zSC]
      refine wpAnyH_take (i := 4) (v := ?_) rfl (by kernel_rfl) (by kernel_rfl) (by kernel_rfl) (fun _ _ _ h => h) (Or.inl ⟨by rfl, ?_⟩) (by assumption) ?_
      case refine_2 => (intro w hSw; (try dsimp only at hSw); go_simp; try with_reducible rfl)
      simp only [Act.put, zGA, zG0, zGC, zSA, zS0, zSC]
      refine wpAnyH_take (i := 5) (v := ?_) rfl (by kernel_rfl) (by kernel_rfl) (by kernel_rfl) (fun _ _ _ h => h) (Or.inl ⟨by rfl, ?_⟩) (by assumption) ?_
      case refine_2 => (intro w hSw; (try dsimp only at hSw); go_simp; try with_reducible rfl)
      simp only [Act.put, zGA, zG0, zGC, zSA, zS0, zSC]
      refine wpAnyH_take (i := 6) (v := ?_) rfl (by kernel_rfl) (by kernel_rfl) (by kernel_rfl) (fun _ _ _ h => h) (Or.inl ⟨by rfl, ?_⟩) (by assumption) ?_
      case refine_2 => (intro w hSw; (try dsimp only at hSw); go_simp; try with_reducible rfl)
      simp only [Act.put, zGA, zG0, zGC, zSA, zS0, zSC]
      refine wpAnyH_take (i := 7) (v := ?_) rfl (by kernel_rfl) (by kernel_rfl) (by kernel_rfl) (fun _ _ _ h => h) (Or.inl ⟨by rfl, ?_⟩) (by assumption) ?_
      case refine_2 => (intro w hSw; (try dsimp only at hSw); go_simp; try with_reducible rfl)
      simp only [Act.put, zGA, zG0, zGC, zSA, zS0, zSC]
      refine wpAnyH_take (i := 8) (v := ?_) rfl (by kernel_rfl) (by kernel_rfl) (by kernel_rfl) (fun _ _ _ h => h) (Or.inl ⟨by rfl, ?_⟩) (by assumption) ?_
      case refine_2 => (intro w hSw; (try dsimp only at hSw); go_simp; try with_reducible rfl)
      simp only [Act.put, zGA, zG0, zGC, zSA, zS0, zSC]
      refine wpAnyH_take (i := 9) (v := ?_) rfl (by kernel_rfl) (by kernel_rfl) (by kernel_rfl) (fun _ _ _ h => h) (Or.inl ⟨by rfl, ?_⟩) (by assumption) ?_
      case refine_2 => (intro w hSw; (try dsimp only at hSw); go_simp; try with_reducible rfl)
      simp only [Act.put, zGA, zG0, zGC, zSA, zS0, zSC]
      refine wpAnyH_take (i := 10) (v := ?_) rfl (by kernel_rfl) (by kernel_rfl) (by kernel_rfl) (fun _ _ _ h => h) (Or.inl ⟨by rfl, ?_⟩) (by assumption) ?_
      case refine_2 => (intro w hSw; (try dsimp only at hSw); go_simp; try with_reducible rfl)
      simp only [Act.put, zGA, zG0, zGC, zSA, zS0, zSC]
      refine wpAnyH_ready (rs := [11]) (by kernel_rfl) (by simp) ?_
      refine AllReadyH.cons rfl (fun K hK => ?_) AllReadyH.nil
      go_simp
      refine (HC.out _ (TcS.bel (by assumption))).mono ?_
      rintro e w1 ⟨M', rfl, row1, le1, b1⟩
      go_wp2_with fail
      have hF1 := (HF.out.keep (Below.refl _ _).drew).keep b1
      have hB1 : Below w.heap.size w w1 := bl_trans (bl_trans HB.out (Below.refl _ _).drew) b1
      refine hK.out _ _ (TcS.mk' HTc.out.1 HTc.out.2 hB1) (fun hHeld => ?_)
      clear hK K
      refine wpAnyH_take (i := 12) (v := ?_) rfl (by kernel_rfl) (by kernel_rfl) (by kernel_rfl) (fun _ _ _ h => h) (Or.inl ⟨by rfl, ?_⟩) (by assumption) ?_
      case refine_2 => (intro w hSw; (try dsimp only at hSw); go_simp; try with_reducible rfl)
      simp only [Act.put, zGA, zG0, zGC, zSA, zS0, zSC]
      obtain ⟨V1, hV1⟩ : ∃ V, w1.alloc (.cells #[.string z.nm, .int .i64 z.v.cp, .int .i64 z.v.se, .slice M'.ia M'.i M'.ic, .int .i64 z.v.nx, .slice M'.sa M'.s M'.sc, .slice M'.la M'.l M'.lc, .slice M'.ga M'.g M'.gc, .bool z.v.cl] 40) = V := ⟨_, rfl⟩
      have bV : Below w1.heap.size w1 V1 := by rw [← hV1]; exact bl_alloc (Below.refl _ _) _
      have hFV := hF1.keep bV
      have rowV := row1.keep bV
      have hBV := bl_trans hB1 bV
      have hsz : w.heap.size ≤ V1.heap.size := hBV.size
      obtain ⟨a2, c2, w2, hr2, ho2, hg2, hl2⟩ := append_topR w.heap.size k (.slice oa k oc) ys (some ⟨w1.heap.size, 0, none⟩) 1 1 [⟨z.nm, M', z.v⟩] V1 hFV.row hsz rfl (.inr ⟨w1.heap.size, 0, rfl, fun j u hj => by
        rw [← hV1, World.cell?_alloc_new, Nat.zero_add]
        simpa [tflat] using hj⟩) (by have h := HN.out; omega)
      have hge : ∀ q, (Value.slice oa k oc).ownBlock = some q → w.heap.size ≤ q := fun q e => (row_lt hFV.row e).1
      have hB2 : Below w.heap.size w w2 := hBV.grown hg2 hsz hge
      have hm1 : ∀ q, some q ∈ blkR M' → wr.drew.heap.size ≤ q := fun q hq => (row1.blk q hq).1
      have hF2 := hFV.push (x := ⟨z.nm, M', z.v⟩) (rowV.mono (by have h := HB.out.size; exact h)) HM.out.2 (fun q hq e => by have h1 := hm1 q hq; have h2 := (row_lt (HF.out.keep (Below.refl _ _).drew).row e).2; omega) (fun q hq hm => by have h1 := hm1 q hq; have h2 := ((HF.out.keep (Below.refl _ _).drew).blk q hm).2; omega) ho2 hg2 hl2
      refine wpAnyH_ready (rs := [13]) (by kernel_rfl) (by simp) ?_
      refine AllReadyH.cons rfl (fun K hK => ?_) AllReadyH.nil
      go_simp
      try rw [hV1]
      refine hK.out _ _ (TcS.mk' HTc.out.1 HTc.out.2 hBV) (fun hHeld => ?_)
      clear hK K
      refine wpAnyH_ready (rs := [14]) (by kernel_rfl) (by simp) ?_
      refine AllReadyH.cons rfl (fun K hK => ?_) AllReadyH.nil
      refine rstep_append_run (by rfl) _ _ 24 (by rfl) (.slice oa k oc) (.slice (some ⟨w1.heap.size, 0, none⟩) 1 1) _ (by rfl) (by rfl) hr2 ?_
      refine hK.out _ _ (TcS.mk' HTc.out.1 HTc.out.2 hB2) (fun hHeld => ?_)
      clear hK K
      simp only [Act.put, zGA, zG0, zGC, zSA, zS0, zSC]
      refine wpAnyH_take (i := 15) (v := ?_) rfl (by kernel_rfl) (by kernel_rfl) (by kernel_rfl) (fun _ _ _ h => h) (Or.inl ⟨by rfl, ?_⟩) (by assumption) ?_
      case refine_2 => (intro w hSw; (try dsimp only at hSw); go_simp; try with_reducible rfl)
      simp only [Act.put, zGA, zG0, zGC, zSA, zS0, zSC]
      refine wpAnyH_done (by kernel_rfl) ?_ _
      refine NoPanic.normal ?_
      have HF2 := hidOf hF2
      have HB2 := hidOf hB2
      have HLe1 := hidOf le1
      clear hS hSd hHeld hF1 hB1 hV1 bV hFV rowV hBV hsz hr2 ho2 hg2 hl2 hge hB2 hm1 hF2 row1 le1 b1
      go_wp2_with fail
      go_roundw
      case rel =>
        refine ⟨k + 1, a2, c2, ys ++ [⟨z.nm, M', z.v⟩], by omega, by go_num, rfl, HF2.out, ?_, ?_, HB2.out⟩
        · have hk2 : k < (tvs xs).length := by simp [tvs]; exact HKl.out
          have e1 : tvs (ys ++ [⟨z.nm, M', z.v⟩]) = tvs ys ++ [(z.nm, z.v)] := by simp [tvs]
          rw [e1, HSv.out, List.take_succ_eq_append_getElem hk2]
          congr 1
          have : (tvs xs)[k] = (z.nm, z.v) := by simp only [tvs, List.getElem_map]; rw [← tg_eq HKl.out, HZ.out]
          rw [this]
        · intro y hy
          rcases List.mem_append.1 hy with hy | hy
          · exact HRl.out y hy
          · rw [List.mem_singleton.1 hy]
            exact ⟨z, HM.out.1, HLe1.out⟩
      case measure => simp [intOf]; omega
    · have hkn : k = n := by omega
      subst hkn
      have hki : ¬ (k : Int) < (k : Int) := by omega
      go_wp2_with fail
      go_ret
      refine ⟨oa, oc, ys, rfl, HF.out, ?_, HRl.out, HB.out⟩
      rw [HSv.out, List.take_of_length_le (by simp [tvs]; have := HL.out; omega)]
end Go.Proofs.YtojajaibeifhoaaGreatDoor
namespace Go.Proofs.YtojajaibeifhoaaGreatDoor
open Go.RowKit Pl Il

theorem copiedS_any (a : Option Addr) (n cap : Nat) (xs : List Sa) (w : World) (hI : SubAt w a n xs) (hn : n ≤ 2097152) :
    Calls Tryz.prog 128 #[.slice a n cap] w fun e w' => ∃ a' c', e = .returned (.slice a' n c') ∧ w'.ownsRow w.heap.size 119 7 (.slice a' n c') n (sflat xs) ∧ Below w.heap.size w w' := by
  obtain ⟨a', c', w', hr, ho, hg, _⟩ := append_subR w.heap.size 0 (.slice none 0 0) [] a n cap xs w (World.ownsRow_nil _ _ _ _) (Nat.le_refl _) hI (by omega)
  rw [Nat.zero_add] at hr ho
  rw [List.nil_append] at ho
  have hb : Below w.heap.size w w' := (Below.refl _ _).grown hg (Nat.le_refl _) (fun k hk => by cases hk)
  have Hr := hidOf hr
  have HO := hidOf ho
  clear hr ho hI hg
  go_enter Tryz.func128, Tryz.ntmps128
  go_wp2_with (at_builtin; refine wpList_append_run rfl _ _ 35 rfl _ _ _ rfl rfl Hr.out ?_)
  go_ret
  exact ⟨_, _, rfl, HO.out, hb⟩
theorem copiedM_any (a : Option Addr) (n cap : Nat) (ts : List Tm) (w : World) (hI : TmAt w a n ts) (hn : n ≤ 2097152) :
    Calls Tryz.prog 98 #[.slice a n cap] w fun e w' => ∃ a' c', e = .returned (.slice a' n c') ∧ w'.ownsRow w.heap.size 26 3 (.slice a' n c') n (qflat ts) ∧ Below w.heap.size w w' := by
  obtain ⟨a', c', w', hr, ho, hg, _⟩ := append_msgR w.heap.size 0 (.slice none 0 0) [] a n cap ts w (World.ownsRow_nil _ _ _ _) (Nat.le_refl _) hI (by omega)
  rw [Nat.zero_add] at hr ho
  rw [List.nil_append] at ho
  have hb : Below w.heap.size w w' := (Below.refl _ _).grown hg (Nat.le_refl _) (fun k hk => by cases hk)
  have Hr := hidOf hr
  have HO := hidOf ho
  clear hr ho hI hg
  go_enter Tryz.func98, Tryz.ntmps98
  go_wp2_with (at_builtin; refine wpList_append_run rfl _ _ 34 rfl _ _ _ rfl rfl Hr.out ?_)
  go_ret
  exact ⟨_, _, rfl, HO.out, hb⟩
theorem sflat_cons (x : Sa) (l : List Sa) : sflat (x :: l) = sC x ++ sflat l := by simp [sflat]
theorem sflat_set : ∀ (ys : List Sa) (k : Nat) (a : Option Addr) (n c : Nat), k < ys.length → (sflat ys).set (k * 7 + 6) (.slice a n c) = sflat (ys.set k ⟨(sg ys k).s, a, n, c⟩)
  | [], k, _, _, _, h => by simp at h
  | y :: l, 0, a, n, c, _ => by
    rw [sflat_cons, List.set_append_left _ _ (by simp), List.set_cons_zero, sflat_cons]
    rfl
  | y :: l, k + 1, a, n, c, h => by
    have hc : (sC y).length = 7 := rfl
    rw [sflat_cons, List.set_append_right _ _ (by rw [hc]; omega), hc, show (k + 1) * 7 + 6 - 7 = k * 7 + 6 by omega, sflat_set l k a n c (by simpa using h), List.set_cons_succ, sflat_cons]
    rfl
/-- Subscribers that a call has made: a row, and a row for each filter, all apart. -/
structure SRow (B : Nat) (w : World) (a : Option Addr) (n c : Nat) (ys : List Sa) : Prop where
  sb : w.ownsRow B 119 7 (.slice a n c) n (sflat ys)
  fl : ∀ x, x ∈ ys → w.ownsRow B 156 3 (.slice x.a x.n x.c) x.n (qflat x.s.fl)
  fls : ∀ x, x ∈ ys → ∀ p, p ∈ x.s.fl → p.2.2.size ≤ maxLen
  apt : Apt ((Value.slice a n c).ownBlock :: ys.map fun x => (Value.slice x.a x.n x.c).ownBlock)
/-- The first k filters are copied. -/
structure CsT (w : World) (g n c k : Nat) (xs ys : List Sa) (u : World) : Prop where
  len : ys.length = n
  sb : u.ownsRow w.heap.size 119 7 (.slice (some ⟨g, 0, none⟩) n c) n (sflat ys)
  same : ∀ i, i < n → (sg ys i).s = (sg xs i).s ∧ (sg ys i).n = (sg xs i).n
  rest : ∀ i, i < n → k ≤ i → sg ys i = sg xs i
  fl : ∀ i, i < k → u.ownsRow w.heap.size 156 3 (.slice (sg ys i).a (sg ys i).n (sg ys i).c) (sg ys i).n (qflat (sg ys i).s.fl)
  ne : ∀ i, i < k → (Value.slice (sg ys i).a (sg ys i).n (sg ys i).c).ownBlock ≠ some g
  ap : ∀ i j, i < j → j < k → ∀ b, (Value.slice (sg ys i).a (sg ys i).n (sg ys i).c).ownBlock = some b → (Value.slice (sg ys j).a (sg ys j).n (sg ys j).c).ownBlock ≠ some b
  below : Below w.heap.size w u
theorem sg_set_same {ys : List Sa} {k : Nat} {x : Sa} (h : k < ys.length) : sg (ys.set k x) k = x := by rw [sg_eq (by simpa using h)]; simp
theorem sg_set_ne {ys : List Sa} {k i : Nat} {x : Sa} (h : i ≠ k) : sg (ys.set k x) i = sg ys i := by
  unfold sg
  rw [List.getD_eq_getElem?_getD, List.getD_eq_getElem?_getD, List.getElem?_set_ne (fun e => h e.symm)]
/-- One more. -/
theorem CsT.step {w : World} {g n c k : Nat} {xs ys : List Sa} {u u' : World} {a6 : Option Addr} {c6 : Nat} (h : CsT w g n c k xs ys u) (hk : k < n) (ho : u'.ownsRow u.heap.size 156 3 (.slice a6 (sg xs k).n c6) (sg xs k).n (qflat (sg xs k).s.fl)) (hb : Below u.heap.size u u') :
    CsT w g n c (k + 1) xs (ys.set k ⟨(sg ys k).s, a6, (sg xs k).n, c6⟩) (u'.setCell ⟨g, k * 7 + 6, none⟩ (.slice a6 (sg xs k).n c6)) := by
  have hky : k < ys.length := by rw [h.len]; exact hk
  have hg := row_lt h.sb (q := g) rfl
  have st := (ownsRow_keep h.sb hb).stored (k * 7 + 6) (.slice a6 (sg xs k).n c6)
  rw [sflat_set _ _ _ _ _ hky] at st
  have nb : ∀ q, (Value.slice a6 (sg xs k).n c6).ownBlock = some q → u.heap.size ≤ q := fun q e => (row_lt ho e).1
  have hs : u.heap.size ≤ u'.heap.size := hb.size
  have gs := grown_setC u' g (k * 7 + 6) (.slice a6 (sg xs k).n c6)
  refine ⟨by simpa using h.len, st.1, fun i hi => ?_, fun i hi hki => ?_, fun i hi => ?_, fun i hi => ?_, fun i j hij hj => ?_, bl_setB (bl_trans h.below hb) _ _ hg.1 _⟩
  · by_cases e : i = k
    · subst e
      rw [sg_set_same hky]
      exact ⟨(h.same i hi).1, rfl⟩
    · rw [sg_set_ne e]
      exact h.same i hi
  · rw [sg_set_ne (by omega)]
    exact h.rest i hi (by omega)
  · by_cases e : i = k
    · subst e
      rw [sg_set_same hky]
      have := (h.same i hk).1
      simp only
      rw [this]
      exact rowG (rowM ho h.below.size) gs (fun q e1 e2 => by injection e1 with e1; have := nb q e2; omega)
    · rw [sg_set_ne e]
      exact rowG (ownsRow_keep (h.fl i (by omega)) hb) gs (fun q e1 e2 => by injection e1 with e1; exact h.ne i (by omega) (by rw [e2, e1]))
  · by_cases e : i = k
    · subst e
      rw [sg_set_same hky]
      intro e2
      have := nb g e2
      omega
    · rw [sg_set_ne e]
      exact h.ne i (by omega)
  · by_cases e : j = k
    · subst e
      rw [sg_set_same hky, sg_set_ne (by omega)]
      intro b e1 e2
      have h1 := (row_lt (h.fl i hij) e1).2
      have h2 := nb b e2
      omega
    · rw [sg_set_ne e, sg_set_ne (by omega)]
      exact h.ap i j hij (by omega)
theorem CsT.done {w : World} {g n c : Nat} {xs ys : List Sa} {u : World} (h : CsT w g n c n xs ys u) (hl : xs.length = n) (hfs : ∀ x, x ∈ xs → ∀ p, p ∈ x.s.fl → p.2.2.size ≤ maxLen) : SRow w.heap.size u (some ⟨g, 0, none⟩) n c ys ∧ svs ys = svs xs ∧ ∀ y, y ∈ ys → ∃ x, x ∈ xs ∧ y.n = x.n := by
  have mem : ∀ y, y ∈ ys → ∃ i, i < n ∧ y = sg ys i := fun y hy => by
    obtain ⟨i, hi, rfl⟩ := List.getElem_of_mem hy
    exact ⟨i, by rw [← h.len]; exact hi, (sg_eq hi).symm⟩
  refine ⟨⟨h.sb, fun y hy => ?_, fun y hy => ?_, ?_⟩, ?_, fun y hy => ?_⟩
  · obtain ⟨i, hi, rfl⟩ := mem y hy
    exact h.fl i hi
  · obtain ⟨i, hi, rfl⟩ := mem y hy
    rw [(h.same i hi).1]
    exact hfs _ (sg_mem (by omega))
  · unfold Apt
    rw [List.pairwise_cons]
    refine ⟨fun p hp b e => ?_, ?_⟩
    · obtain ⟨y, hy, rfl⟩ := List.mem_map.1 hp
      obtain ⟨i, hi, rfl⟩ := mem y hy
      have e' : g = b := by simpa [Value.ownBlock] using e
      rw [← e']
      exact h.ne i hi
    · rw [List.pairwise_map, List.pairwise_iff_getElem]
      intro i j hi hj hij
      rw [← sg_eq hi, ← sg_eq hj]
      exact h.ap i j hij (by rw [← h.len]; exact hj)
  · refine List.ext_getElem (by simp [svs, h.len, hl]) fun i h1 h2 => ?_
    have hi : i < n := by simpa [svs, h.len] using h1
    have e1 : i < ys.length := by rw [h.len]; exact hi
    have e2 : i < xs.length := by omega
    simp only [svs, List.getElem_map]
    rw [← sg_eq e1, ← sg_eq e2]
    exact (h.same i hi).1
  · obtain ⟨i, hi, rfl⟩ := mem y hy
    exact ⟨sg xs i, sg_mem (by omega), (h.same i hi).2⟩
/-- Subscribers were copied. -/
def CsP (w : World) (n : Nat) (xs : List Sa) (e : Ending) (w' : World) : Prop := ∃ a' c' ys, e = .returned (.slice a' n c') ∧ SRow w.heap.size w' a' n c' ys ∧ svs ys = svs xs ∧ (∀ y, y ∈ ys → ∃ x, x ∈ xs ∧ y.n = x.n) ∧ Below w.heap.size w w'
set_option maxRecDepth 100000 in
set_option maxHeartbeats 4000000 in
theorem copiedSubs_any (a : Option Addr) (n cap : Nat) (xs : List Sa) (w : World) (hI : SubAt w a n xs) (hn : n ≤ 2097152) (hf : ∀ x, x ∈ xs → x.n ≤ 2097152) :
    Calls Tryz.prog 99 #[.slice a n cap] w fun e w' => CsP w n xs e w' := by
  have HC := hidOf (copiedS_any a n cap xs w hI hn)
  have HI := hidOf hI
  have HF := hidOf hf
  clear hI hf
  go_enter Tryz.func99, Tryz.ntmps99
  go_wp2_with fail
  refine (HC.out).mono ?_
  rintro e w1 ⟨a', c', rfl, ho, hb⟩
  have HO := hidOf ho
  have HB := hidOf hb
  have hl := HI.out.len
  have HL := hidOf hl
  clear HC ho hb hl
  rcases Nat.eq_zero_or_pos n with h0 | hpos
  · subst h0
    have hx : xs = [] := List.length_eq_zero_iff.1 HL.out
    subst hx
    go_wp2_with fail
    go_loop [9] (fun i => i = .int .i64 0) (fun _ => 0)
    case atStart => rfl
    case round =>
      subst hrel
      go_wp2
      go_ret
      exact ⟨_, _, [], rfl, ⟨HO.out, fun x hx => (by cases hx), fun x hx => (by cases hx), by simp [Apt]⟩, rfl, fun y hy => (by cases hy), HB.out⟩
  obtain ⟨_, _, hr | ⟨g, rfl, _⟩⟩ := rowS HO.out
  · omega
  have HS := hidOf (show CsT w g n c' 0 xs xs w1 from ⟨HL.out, HO.out, fun i _ => ⟨rfl, rfl⟩, fun i _ _ => rfl, fun i hi => (by omega), fun i hi => (by omega), fun i j _ hj => (by omega), HB.out⟩)
  go_wp2_with fail
  go_loopw [9] (fun i wr => ∃ (k : Nat) (ys : List Sa), k ≤ n ∧ i = .int .i64 k ∧ CsT w g n c' k xs ys wr) (fun i _ => n - (intOf i).toNat)
  case atStart => exact ⟨0, xs, Nat.zero_le _, rfl, HS.out⟩
  case round =>
    rename World => wr
    obtain ⟨k, ys, hk, rfl, hS⟩ := hrel
    clear HS
    by_cases hlt : k < n
    · obtain ⟨_, _, hr | ⟨g', e, _, hgl, hfr, hcell⟩⟩ := rowS hS.sb
      · omega
      cases e
      have c6 := (hcell k hlt).c6
      rw [hS.rest k hlt (Nat.le_refl _)] at c6
      rw [Nat.zero_add] at c6
      have hkl : k < xs.length := by rw [HL.out]; exact hlt
      have hxn := HF.out _ (sg_mem hkl)
      have HC := hidOf (copiedF_any (sg xs k).a (sg xs k).n (sg xs k).c (sg xs k).s.fl wr ((HI.out.keep hS.below).fil _ (sg_mem hkl)) hxn)
      have HSt := hidOf (fun (u' : World) (a6 : Option Addr) (c6 : Nat) => CsT.step (u' := u') (a6 := a6) (c6 := c6) hS hlt)
      obtain ⟨x, hx⟩ : ∃ x, sg xs k = x := ⟨_, rfl⟩
      rw [hx] at c6 hxn HC HSt
      have hki : (k : Int) < (n : Int) := by omega
      clear hcell hS hx hkl
      go_wp2_with fail
      refine (HC.out).mono ?_
      rintro e w5 ⟨a6, c6', rfl, ho6, hb6⟩
      have HSt2 := hidOf (HSt.out w5 a6 c6' ho6 hb6)
      have d6 : w5.cell? ⟨g, k * 7 + 6, none⟩ = some (.slice x.a x.n x.c) := by rw [hb6.cell (p := ⟨g, k * 7 + 6, none⟩) hgl]; exact c6
      have d7 : ∀ o, w5.frozen? ⟨g, o, none⟩ = false := fun o => by rw [hb6.frozen (p := ⟨g, o, none⟩) hgl]; exact hfr o
      clear ho6 hb6 HC HSt c6 hfr
      go_wp2
      go_roundw
      case rel => exact ⟨k + 1, _, by omega, by go_num, HSt2.out⟩
      case measure => simp [intOf]; omega
    · obtain rfl : k = n := by omega
      have HD := hidOf (hS.done HL.out (fun x hx => (HI.out.fil x hx).short))
      have HB2 := hidOf hS.below
      clear hS
      go_wp2
      go_ret
      exact ⟨_, _, ys, rfl, HD.out.1, HD.out.2.1, HD.out.2.2, HB2.out⟩
end Go.Proofs.YtojajaibeifhoaaGreatDoor
namespace Go.Proofs.YtojajaibeifhoaaGreatDoor
open Go.RowKit Go.Maps Pl Il

theorem copied_row (a : Option Addr) (n cap : Nat) (xs : List Int) (w : World) (hI : IntsAt w a n xs) (hn : n ≤ 2097152) :
    Calls Tryz.prog 100 #[.slice a n cap] w fun e w' => ∃ a' c', e = .returned (.slice a' n c') ∧ w'.ownsRow w.heap.size 3 1 (.slice a' n c') n (intsV xs) ∧ Below w.heap.size w w' := by
  obtain ⟨v, w', hr, ho, hb⟩ := copied_run a n cap xs w hI hn
  obtain ⟨a', c', rfl, hO⟩ := own_of ho xs rfl
  have Hr := hidOf hr
  have HO := hidOf ho
  clear hr ho hI
  go_enter Tryz.func100, Tryz.ntmps100
  go_wp2_with (at_builtin; refine wpList_append_run rfl _ _ 36 rfl _ _ _ rfl rfl Hr.out ?_)
  go_ret
  exact ⟨a', c', rfl, HO.out, hb⟩
end Go.Proofs.YtojajaibeifhoaaGreatDoor
