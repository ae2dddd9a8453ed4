/-
  The library's heap over the program's: rising up, sinking down, one more, the first one, all anew.
-/
import Derived.Test.YtfahfbeemgigcaaU3
namespace Go.Proofs.Ytfahfbeemgigcaa
open Go.RowKit Pl Il Th

theorem meth_len (hb : Nat) (w : World) : (method 219 57 (.pointer (some ⟨hb, 0, none⟩)) "Len").run Try.prog w = .ok (42, .pointer (some ⟨hb, 0, none⟩)) w := by kernel_rfl
theorem meth_less (hb : Nat) (w : World) : (method 219 57 (.pointer (some ⟨hb, 0, none⟩)) "Less").run Try.prog w = .ok (83, .pointer (some ⟨hb, 0, none⟩)) w := by kernel_rfl
theorem meth_swap (hb : Nat) (w : World) : (method 219 57 (.pointer (some ⟨hb, 0, none⟩)) "Swap").run Try.prog w = .ok (86, .pointer (some ⟨hb, 0, none⟩)) w := by kernel_rfl
theorem meth_push (hb : Nat) (w : World) : (method 219 57 (.pointer (some ⟨hb, 0, none⟩)) "Push").run Try.prog w = .ok (85, .pointer (some ⟨hb, 0, none⟩)) w := by kernel_rfl
theorem meth_pop (hb : Nat) (w : World) : (method 219 57 (.pointer (some ⟨hb, 0, none⟩)) "Pop").run Try.prog w = .ok (84, .pointer (some ⟨hb, 0, none⟩)) w := by kernel_rfl
/-- The heap as the library is handed it. -/
def hv (hb : Nat) : Value := .iface 57 (.pointer (some ⟨hb, 0, none⟩))

theorem quo_up (k : Nat) : Int.tdiv ((k : Int) - 1) 2 = (((k - 1) / 2 : Nat) : Int) := by
  rcases Nat.eq_zero_or_pos k with rfl | hk
  · rfl
  · have : ((k : Int) - 1) = ((k - 1 : Nat) : Int) := by omega
    rw [this]
    exact (Int.ofNat_tdiv (k - 1) 2).symm
theorem up_any (B hb : Nat) (tv : Value) (kk : Int) (l : List NT) (j : Nat) (w : World) (h : HMem B w hb tv kk l) (hj : j < l.length) (hl : l.length ≤ 100) :
    Calls Try.prog 65 #[hv hb, .int .i64 j] w fun e w' => e = .returned (.tuple #[]) ∧ HMem B w' hb tv kk (upL (j + 1) l j) ∧ HFr B w w' := by
  have m1 := meth_less hb
  have m2 := meth_swap hb
  unfold hv
  go_enter Try.func65, Try.ntmps65
  go_wp2_with fail
  go_loopw [1] (fun x wr => ∃ (k f : Nat) (l' : List NT), x = .int .i64 k ∧ k < l'.length ∧ l'.length = l.length ∧ k < f ∧ upL f l' k = upL (j + 1) l j ∧ HMem B wr hb tv kk l' ∧ HFr B w wr) (fun x _ => (intOf x).toNat)
  case atStart => exact ⟨j, j + 1, l, rfl, hj, rfl, by omega, rfl, h, HFr.refl _ _⟩
  case round =>
    rename_i wr
    obtain ⟨k, f, l', rfl, hk, hll, hf, hU, hM, hF⟩ := hrel
    have hq := quo_up k
    obtain ⟨p, hp⟩ : ∃ p, p = (k - 1) / 2 := ⟨_, rfl⟩
    rw [← hp] at hq
    have HP := hidOf hp
    have HU := hidOf hU
    have HM := hidOf hM
    have HL := hidOf hll
    have hk100 : k < 100 := by omega
    clear hp hU hM hll h
    by_cases e : p = k
    · have hk0 : k = 0 := by have := HP.out; omega
      have hres : upL f l' k = l' := by
        cases f with
        | zero => omega
        | succ f => rw [upL, if_pos (by rw [← HP.out]; exact e)]
      rw [HU.out] at hres
      have HR := hidOf hres
      clear hres HU HP hq e
      subst hk0
      go_wp2
      go_end0
      exact ⟨rfl, by rw [HR.out]; exact HM.out, hF⟩
    · have he : ((p : Int) == (k : Int)) = false := by simp; omega
      have hpk : p < k := by have := HP.out; omega
      go_wp2_with fail
      refine (less_any B hb tv kk l' k p _ HM.out hk (by omega) (by have := HL.out; omega)).mono ?_
      rintro e2 w2 ⟨rfl, hb2⟩
      have HM2 := hidOf (HM.out.keep hb2)
      have hF2 := hF.trans (HFr.of hb2 HM.out.size)
      clear hF
      cases hs : soon (g l' k) (g l' p)
      · have hres : upL f l' k = l' := up_same f l' k (by rw [← HP.out]; exact hs)
        rw [HU.out] at hres
        go_wp2
        go_end0
        exact ⟨rfl, by rw [hres]; exact HM2.out, hF2⟩
      · have hres : upL (f - 1) (swapL l' p k) p = upL (j + 1) l j := by
          rw [← HU.out]
          obtain ⟨f', rfl⟩ : ∃ f', f = f' + 1 := ⟨f - 1, by omega⟩
          rw [upL, if_neg (by rw [← HP.out]; exact e), ← HP.out, if_pos hs]
          rfl
        clear HM
        go_wp2_with fail
        refine (swap_any B hb tv kk l' p k _ HM2.out (by omega) hk).mono ?_
        rintro e3 w3 ⟨rfl, hM3, hF3⟩
        have HM3 := hidOf hM3
        have hF4 := hF2.trans hF3
        have HR := hidOf hres
        clear HM2 hM3 hF3 hres hF2
        go_wp2
        go_roundw
        case rel => exact ⟨p, f - 1, swapL l' p k, rfl, by rw [length_swap]; omega, by rw [length_swap]; exact HL.out, by omega, HR.out, HM3.out, hF4⟩
        case measure => simp [intOf]; omega
theorem down_step {l : List NT} {i n c : Nat} {f : Nat} (hf : 0 < f) (hn : ¬ n ≤ 2 * i + 1) (hc : child l i n = c) : downL f l i n = if soon (g l c) (g l i) = true then downL (f - 1) (swapL l i c) c n else l := by
  subst hc
  obtain ⟨f', rfl⟩ : ∃ f', f = f' + 1 := ⟨f - 1, by omega⟩
  rw [downL, if_neg hn]
  rfl
/-- Some truth value is handed back. -/
def RetB (e : Ending) : Prop := ∃ b, e = .returned (.bool b)
set_option maxHeartbeats 4000000 in
theorem down_any (B hb : Nat) (tv : Value) (kk : Int) (l : List NT) (i n : Nat) (w : World) (h : HMem B w hb tv kk l) (hi : i ≤ n) (hn : n ≤ l.length) (hl : l.length ≤ 100) :
    Calls Try.prog 64 #[hv hb, .int .i64 i, .int .i64 n] w fun e w' => RetB e ∧ HMem B w' hb tv kk (downL n l i n) ∧ HFr B w w' := by
  have m1 := meth_less hb
  have m2 := meth_swap hb
  unfold hv
  go_enter Try.func64, Try.ntmps64
  go_wp2_with fail
  go_loopw [7] (fun x wr => ∃ (k f : Nat) (l' : List NT), x = .int .i64 k ∧ k ≤ n ∧ l'.length = l.length ∧ n - k ≤ f ∧ downL f l' k n = downL n l i n ∧ HMem B wr hb tv kk l' ∧ HFr B w wr) (fun x _ => n - (intOf x).toNat)
  case atStart => exact ⟨i, n, l, rfl, hi, rfl, by omega, rfl, h, HFr.refl _ _⟩
  case round =>
    rename_i wr
    obtain ⟨k, f, l', rfl, hk, hll, hf, hU, hM, hF⟩ := hrel
    obtain ⟨c1, hc1⟩ : ∃ c, c = 2 * k + 1 := ⟨_, rfl⟩
    obtain ⟨c2, hc2⟩ : ∃ c, c = c1 + 1 := ⟨_, rfl⟩
    have i1 : 2 * (k : Int) + 1 = (c1 : Int) := by omega
    have i2 : (c1 : Int) + 1 = (c2 : Int) := by omega
    have HC1 := hidOf hc1
    have HC2 := hidOf hc2
    have HU := hidOf hU
    have HM := hidOf hM
    have HL := hidOf hll
    have HF := hidOf hF
    have hk100 : k ≤ 100 := by omega
    have hc100 : c1 ≤ 300 := by omega
    have hcp : ¬ (c1 : Int) < 0 := by omega
    clear hU hM hll h hF
    by_cases hnn : n ≤ 2 * k + 1
    · have hg : (n : Int) ≤ (c1 : Int) := by omega
      have hres : downL f l' k n = l' := by
        cases f with
        | zero => rfl
        | succ f => rw [downL, if_pos hnn]
      rw [HU.out] at hres
      have HR := hidOf hres
      clear hres hc1 hc2 hnn
      go_wp2
      go_ret
      exact ⟨⟨_, rfl⟩, by rw [HR.out]; exact HM.out, HF.out⟩
    · have hg : ¬ (n : Int) ≤ (c1 : Int) := by omega
      have hf0 : 0 < f := by omega
      have hb1 : c1 < l'.length := by have := HL.out; omega
      have hb0 : k < l'.length := by have := HL.out; omega
      by_cases h2 : c2 < n
      · have h2' : (c2 : Int) < (n : Int) := by omega
        have hb2 : c2 < l'.length := by have := HL.out; omega
        clear hc1 hc2
        go_wp2_with fail
        refine (less_any B hb tv kk l' c2 c1 _ HM.out hb2 hb1 (by have := HL.out; omega)).mono ?_
        rintro e1 w1 ⟨rfl, hbb1⟩
        have HMx := hidOf (HM.out.keep hbb1)
        have hFx := HF.out.trans (HFr.of hbb1 HM.out.size)
        clear HM HF
        cases hs1 : soon (g l' c2) (g l' c1)
        · have hch : child l' k n = c1 := by
            unfold child
            rw [← HC1.out, show 2 * k + 2 = c2 by have := HC1.out; have := HC2.out; omega, hs1]
            simp
          have hkc : k < c1 := by have := HC1.out; omega
          have hcn : c1 ≤ n := by omega
          go_wp2_with fail
          refine (less_any B hb tv kk l' c1 k _ HMx.out (by omega) (by omega) (by have := HL.out; omega)).mono ?_
          rintro e2 w2 ⟨rfl, hb2⟩
          have HM2 := hidOf (HMx.out.keep hb2)
          have hF2 := hFx.trans (HFr.of hb2 HMx.out.size)
          clear HMx hFx
          cases hs : soon (g l' c1) (g l' k)
          · have hres := HU.out
            rw [down_step (c := c1) hf0 hnn hch, if_neg (by rw [hs]; simp)] at hres
            have HR := hidOf hres
            clear hres
            go_wp2
            go_ret
            exact ⟨⟨_, rfl⟩, by rw [← HR.out]; exact HM2.out, hF2⟩
          · have hres := HU.out
            rw [down_step (c := c1) hf0 hnn hch, if_pos hs] at hres
            have HR := hidOf hres
            clear hres
            go_wp2_with fail
            refine (swap_any B hb tv kk l' k c1 _ HM2.out (by omega) (by omega)).mono ?_
            rintro e3 w3 ⟨rfl, hM3, hF3⟩
            have HM3 := hidOf hM3
            have hF4 := hF2.trans hF3
            clear HM2 hM3 hF3 hF2
            go_wp2
            go_roundw
            case rel => exact ⟨c1, f - 1, swapL l' k c1, rfl, by omega, by rw [length_swap]; exact HL.out, by omega, HR.out, HM3.out, hF4⟩
            case measure => simp [intOf]; omega
        · have hch : child l' k n = c2 := by
            unfold child
            rw [← HC1.out, show 2 * k + 2 = c2 by have := HC1.out; have := HC2.out; omega, hs1]
            simp [h2]
          have hkc : k < c2 := by have := HC1.out; have := HC2.out; omega
          go_wp2_with fail
          refine (less_any B hb tv kk l' c2 k _ HMx.out (by omega) (by omega) (by have := HL.out; omega)).mono ?_
          rintro e2 w2 ⟨rfl, hb2⟩
          have HM2 := hidOf (HMx.out.keep hb2)
          have hF2 := hFx.trans (HFr.of hb2 HMx.out.size)
          clear HMx hFx
          cases hs : soon (g l' c2) (g l' k)
          · have hres := HU.out
            rw [down_step (c := c2) hf0 hnn hch, if_neg (by rw [hs]; simp)] at hres
            have HR := hidOf hres
            clear hres
            go_wp2
            go_ret
            exact ⟨⟨_, rfl⟩, by rw [← HR.out]; exact HM2.out, hF2⟩
          · have hres := HU.out
            rw [down_step (c := c2) hf0 hnn hch, if_pos hs] at hres
            have HR := hidOf hres
            clear hres
            go_wp2_with fail
            refine (swap_any B hb tv kk l' k c2 _ HM2.out (by omega) (by omega)).mono ?_
            rintro e3 w3 ⟨rfl, hM3, hF3⟩
            have HM3 := hidOf hM3
            have hF4 := hF2.trans hF3
            clear HM2 hM3 hF3 hF2
            go_wp2
            go_roundw
            case rel => exact ⟨c2, f - 1, swapL l' k c2, rfl, by omega, by rw [length_swap]; exact HL.out, by omega, HR.out, HM3.out, hF4⟩
            case measure => simp [intOf]; omega
      · have h2' : ¬ (c2 : Int) < (n : Int) := by omega
        have hch : child l' k n = c1 := by
          unfold child
          rw [← HC1.out, show 2 * k + 2 = c2 by have := HC1.out; have := HC2.out; omega]
          simp [h2]
        have hkc : k < c1 := by have := HC1.out; omega
        have hcn : c1 ≤ n := by omega
        have HMx := HM
        have hFx := HF.out
        clear hc1 hc2 HM HF
        go_wp2_with fail
        refine (less_any B hb tv kk l' c1 k _ HMx.out (by omega) (by omega) (by have := HL.out; omega)).mono ?_
        rintro e2 w2 ⟨rfl, hb2⟩
        have HM2 := hidOf (HMx.out.keep hb2)
        have hF2 := hFx.trans (HFr.of hb2 HMx.out.size)
        clear HMx hFx
        cases hs : soon (g l' c1) (g l' k)
        · have hres := HU.out
          rw [down_step (c := c1) hf0 hnn hch, if_neg (by rw [hs]; simp)] at hres
          have HR := hidOf hres
          clear hres
          go_wp2
          go_ret
          exact ⟨⟨_, rfl⟩, by rw [← HR.out]; exact HM2.out, hF2⟩
        · have hres := HU.out
          rw [down_step (c := c1) hf0 hnn hch, if_pos hs] at hres
          have HR := hidOf hres
          clear hres
          go_wp2_with fail
          refine (swap_any B hb tv kk l' k c1 _ HM2.out (by omega) (by omega)).mono ?_
          rintro e3 w3 ⟨rfl, hM3, hF3⟩
          have HM3 := hidOf hM3
          have hF4 := hF2.trans hF3
          clear HM2 hM3 hF3 hF2
          go_wp2
          go_roundw
          case rel => exact ⟨c1, f - 1, swapL l' k c1, rfl, by omega, by rw [length_swap]; exact HL.out, by omega, HR.out, HM3.out, hF4⟩
          case measure => simp [intOf]; omega

theorem heapPush_any (B hb : Nat) (tv : Value) (kk : Int) (l : List NT) (x : NT) (w : World) (h : HMem B w hb tv kk l) (hl : l.length + 1 ≤ 100) :
    Calls Try.prog 57 #[hv hb, .iface 83 (ntV x)] w fun e w' => e = .returned (.tuple #[]) ∧ (∃ tv', HMem B w' hb tv' kk (pushL l x)) ∧ HFr B w w' := by
  have m1 := meth_push hb
  have m2 := meth_len hb
  have H := hidOf h
  clear h
  unfold hv
  go_enter Try.func57, Try.ntmps57
  go_wp2_with fail
  refine (hpush_any B hb tv kk l x _ H.out hl).mono ?_
  rintro e1 w1 ⟨rfl, ⟨tv1, h1⟩, hF1⟩
  have H1 := hidOf h1
  clear h1
  go_wp2_with fail
  refine (len_any B hb tv1 kk (l ++ [x]) _ H1.out).mono ?_
  rintro e2 w2 ⟨rfl, rfl⟩
  have hlen : (((l ++ [x]).length : Nat) : Int) = (l.length : Int) + 1 := by simp
  rw [hlen]
  go_wp2_with fail
  have hc := up_any B hb tv1 kk (l ++ [x]) l.length w2 H1.out (by simp) (by simpa using hl)
  unfold hv at hc
  refine hc.mono ?_
  rintro e3 w3 ⟨rfl, h3, hF3⟩
  have H3 := hidOf h3
  have hF := hF1.trans hF3
  clear hc h3 hF3 hF1 hlen H1
  go_wp2
  go_end0
  exact ⟨rfl, ⟨_, H3.out⟩, hF⟩

theorem heapPop_any (B hb : Nat) (tv : Value) (kk : Int) (l : List NT) (w : World) (h : HMem B w hb tv kk l) (h0 : 0 < l.length) (hl : l.length ≤ 100) :
    Calls Try.prog 56 #[hv hb] w fun e w' => e = .returned (.iface 83 (ntV (g l 0))) ∧ (∃ tv', HMem B w' hb tv' kk (popL l)) ∧ HFr B w w' := by
  have m1 := meth_pop hb
  have m2 := meth_len hb
  have m3 := meth_swap hb
  obtain ⟨n, hn⟩ : ∃ n, l.length = n + 1 := ⟨l.length - 1, by omega⟩
  have hlen : ((l.length : Nat) : Int) = (n : Int) + 1 := by omega
  have hn1 : l.length - 1 = n := by omega
  have H := hidOf h
  have HN := hidOf hn
  have hn100 : n < 100 := by omega
  have hpl : popL l = (downL n (swapL l 0 n) 0 n).take n := by unfold popL; rw [hn1]
  have hlast := pop_last l h0
  rw [hn1] at hlast
  have HP := hidOf hpl
  have HLa := hidOf hlast
  clear h hn hn1 hpl hlast
  unfold hv
  go_enter Try.func56, Try.ntmps56
  go_wp2_with fail
  refine (len_any B hb tv kk l _ H.out).mono ?_
  rintro e2 w2 ⟨rfl, rfl⟩
  rw [hlen]
  go_wp2_with fail
  have hsw := swap_any B hb tv kk l 0 n w2 H.out h0 (by have := HN.out; omega)
  refine hsw.mono ?_
  rintro e3 w3 ⟨rfl, h3, hF3⟩
  have H3 := hidOf h3
  have HL3 : Hid ((swapL l 0 n).length = n + 1) := by rw [length_swap]; exact HN.out
  clear hsw h3
  go_wp2_with fail
  have hc := down_any B hb tv kk (swapL l 0 n) 0 n w3 H3.out (by omega) (by have := HL3.out; omega) (by have := HL3.out; omega)
  unfold hv at hc
  refine hc.mono ?_
  rintro e4 w4 ⟨⟨b4, rfl⟩, h4, hF4⟩
  have H4 := hidOf h4
  have hF := hF3.trans hF4
  clear hc h4 hF3 hF4
  go_wp2_with fail
  refine (hpop_any B hb tv kk _ n _ H4.out (by rw [length_down]; exact HL3.out) (by rw [length_down]; have := HL3.out; omega)).mono ?_
  rintro e5 w5 ⟨rfl, ⟨tv5, h5⟩, hF5⟩
  rw [← HP.out] at h5
  rw [HLa.out]
  have H5 := hidOf h5
  have hFF := hF.trans hF5
  clear h5 hF5 hF
  go_wp2
  refine bodyPost_ret (v := .iface 83 (ntV (g l 0))) (by simp [results, Try.results56, go_sem]) rfl ⟨rfl, ⟨_, H5.out⟩, hFF⟩

/-- A list that stands in its order is left alone. -/
theorem heapInit_any (B hb : Nat) (tv : Value) (kk : Int) (l : List NT) (w : World) (h : HMem B w hb tv kk l) (hs : ∀ a b, a < b → b < l.length → soon (g l b) (g l a) = false) (hl : l.length ≤ 100) :
    Calls Try.prog 60 #[hv hb] w fun e w' => e = .returned (.tuple #[]) ∧ HMem B w' hb tv kk l ∧ HFr B w w' := by
  have m2 := meth_len hb
  have H := hidOf h
  have HS := hidOf hs
  clear h hs
  unfold hv
  go_enter Try.func60, Try.ntmps60
  go_wp2_with fail
  refine (len_any B hb tv kk l _ H.out).mono ?_
  rintro e2 w2 ⟨rfl, rfl⟩
  have hq : Int.tdiv (l.length : Int) 2 = ((l.length / 2 : Nat) : Int) := (Int.ofNat_tdiv l.length 2).symm
  go_wp2_with fail
  go_loopw [3] (fun x wr => ∃ (k : Int), x = .int .i64 k ∧ -1 ≤ k ∧ k < (l.length : Int) ∧ HMem B wr hb tv kk l ∧ HFr B w2 wr) (fun x _ => (intOf x + 1).toNat)
  case atStart => exact ⟨_, rfl, by omega, by omega, H.out, HFr.refl _ _⟩
  case round =>
    rename_i wr
    obtain ⟨k, rfl, hk0, hk1, hM, hF⟩ := hrel
    have HM := hidOf hM
    clear hM hq
    by_cases hk : k < 0
    · have hk' : ¬ (0 : Int) ≤ k := by omega
      go_wp2
      go_end0
      exact ⟨rfl, HM.out, hF⟩
    · have hk' : (0 : Int) ≤ k := by omega
      obtain ⟨m, rfl⟩ : ∃ m : Nat, k = (m : Int) := ⟨k.toNat, by omega⟩
      go_wp2_with fail
      have hc := down_any B hb tv kk l m l.length wr HM.out (by omega) (Nat.le_refl _) hl
      rw [down_same _ _ _ _ HS.out] at hc
      unfold hv at hc
      refine hc.mono ?_
      rintro e4 w4 ⟨⟨b4, rfl⟩, h4, hF4⟩
      have H4 := hidOf h4
      have hFF := hF.trans hF4
      clear hc h4 hF4 HM hF
      go_wp2
      go_roundw
      case rel => exact ⟨(m : Int) - 1, by go_num, by omega, by omega, H4.out, hFF⟩
      case measure => simp [intOf]
end Go.Proofs.Ytfahfbeemgigcaa
