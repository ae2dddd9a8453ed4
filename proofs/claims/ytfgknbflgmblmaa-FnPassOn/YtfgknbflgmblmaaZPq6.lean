/-
  Walks of the specification's notifications: a grant's place, right or 
-/
import Derived.Test.YtfgknbflgmblmaaZPq0
import Derived.Deep.RegionHeld3
import Derived.Deep.Upon
namespace Go.Proofs.Ytfgknbflgmblmaa
open Go.RowKit Pl Il
theorem l5At_any (a : Option Addr) (n cap : Nat) (gs : List (Int × Bool)) (x : Int) (w : World) (hI : GrAt w a n gs) (hn : n ≤ 2097152) :
    Calls Try.prog 47 #[.slice a n cap, .int .i64 x] w fun e w' => e = .returned (.int .i64 (placeL (whosL gs) x)) ∧ w' = w := by
  obtain ⟨hlen, rfl | ⟨b, off, rfl, hb, hcell⟩⟩ := hI
  · have : gs = [] := List.length_eq_zero_iff.1 hlen
    subst this
    go_enter Try.func47, Try.ntmps47
    go_wp2
    go_loop [5] (fun i => i = .int .i64 0) (fun _ => 0)
    case atStart => rfl
    case round =>
      subst hrel
      go_wp2
      go_ret
      exact ⟨rfl, rfl⟩
  · have hwl : (whosL gs).length = n := by rw [whos_len, hlen]
    have HWL := hidOf hwl
    clear hwl
    go_enter Try.func47, Try.ntmps47
    go_wp2
    go_loop [5] (fun i => ∃ k : Nat, k ≤ n ∧ i = .int .i64 k ∧ hasL ((whosL gs).take k) x = false) (fun i => n - (intOf i).toNat)
    case atStart => exact ⟨0, Nat.zero_le _, rfl, by simp [hasL]⟩
    case round =>
      obtain ⟨k, hk, rfl, hno⟩ := hrel
      have Hno := hidOf hno
      clear hno
      by_cases hlt : k < n
      · have hc := (hcell k hlt).1
        have hya := whos_at gs k
        generalize hy : (gg gs k).1 = y at hc hya
        have HY := hidOf hya
        clear hy hcell hya
        cases hxy : (y == x)
        · go_wp2
          go_round
          case rel => exact ⟨k + 1, by omega, by go_num, has_step (by have := HWL.out; omega) Hno.out (by rw [HY.out]; exact hxy)⟩
          case measure => simp [intOf]; omega
        · go_wp2
          go_ret
          exact ⟨rint (place_hit (by have := HWL.out; omega) Hno.out (by rw [HY.out]; exact hxy)), rfl⟩
      · clear hcell
        go_wp2
        go_ret
        exact ⟨rint (place_none (by have := HWL.out; omega) Hno.out), rfl⟩
theorem place_ne {xs : List Int} {k : Nat} {y : Int} (h : hasL (xs.take k) y = true) : ((placeL xs y) != (k : Int)) = true := by
  simp only [bne_iff_ne, ne_eq]
  intro e
  unfold placeL at e
  cases hf : xs.findIdx? (· == y) with
  | none => rw [hf] at e; simp at e
  | some i =>
    rw [hf] at e
    obtain rfl : i = k := by simp at e; omega
    obtain ⟨hi, _, hj⟩ := List.findIdx?_eq_some_iff_getElem.1 hf
    have hm : y ∈ xs.take i := by simpa [hasL] using h
    obtain ⟨j, hjl, e⟩ := List.mem_iff_getElem.1 hm
    have hji : j < i := by simp at hjl; omega
    have := hj j hji
    simp at e this
    exact this e
theorem place_is {xs : List Int} {k : Nat} {y : Int} (hk : k < xs.length) (hy : xs.getD k 0 = y) (h : hasL (xs.take k) y = false) : ((placeL xs y) != (k : Int)) = false := by
  have := place_hit hk h (by rw [hy]; simp)
  simp [← this]
theorem okN_line {x : Nt} (h : lineL x.ln = false) : okN x = false := by simp [okN, waitL, h]
theorem okN_long {x : Nt} (h : 32 < x.gs.length) : okN x = false := by
  have : lineL (whosL x.gs) = false := line_long (by rw [whos_len]; omega)
  simp [okN, waitL, this]
theorem okN_perm {x : Nt} (hp : x.pm = true) (hl : 0 < x.ln.length) : okN x = false := by
  have : (x.pm && decide (0 < x.ln.length)) = true := by rw [hp, decide_eq_true hl]; rfl
  unfold okN
  rw [this]; simp
theorem okN_cnt {x : Nt} (h : cnt x.on = false ∨ cnt x.sp = false ∨ cnt x.tk = false) : okN x = false := by
  unfold okN
  rcases h with h | h | h <;> simp [h]
theorem okN_bad {x : Nt} {k : Nat} {y : Int} (hk : k < x.gs.length) (hy : (whosL x.gs).getD k 0 = y) (h : clientL y = false ∨ hasL ((whosL x.gs).take k) y = true ∨ hasL x.ln y = true) : okN x = false := by
  have hk' : k < (whosL x.gs).length := by rw [whos_len]; exact hk
  have hw : waitL x.ln (whosL x.gs) = false := by
    unfold waitL
    rcases h with h | h | h
    · rw [line_bad hk' hy (.inl h)]; simp
    · rw [line_bad hk' hy (.inr h)]; simp
    · rw [apart_bad hk' hy h]; simp
  simp [okN, hw]
theorem okN_end {x : Nt} (h1 : lineL x.ln = true) (h2 : x.gs.length ≤ 32) (h3 : x.pm = true → x.ln.length = 0) (c1 : cnt x.on = true) (c2 : cnt x.sp = true) (c3 : cnt x.tk = true) (ht : lineTo (whosL x.gs) x.gs.length = true) (ha : apartL x.ln (whosL x.gs) = true) : okN x = decide (x.on = heldN x) := by
  have hl : lineL (whosL x.gs) = true := line_end (by rw [whos_len]; exact h2) (by rw [whos_len]; exact ht)
  have hw : waitL x.ln (whosL x.gs) = true := by unfold waitL; rw [h1, hl, ha]; rfl
  have hp : (x.pm && decide (0 < x.ln.length)) = false := by
    cases e : x.pm
    · rfl
    · rw [h3 e]; rfl
  unfold okN
  rw [hw, hp, c1, c2, c3]; rfl
theorem cnt_bd {x : Int} (h : cnt x = true) : 0 ≤ x ∧ x ≤ 1000000000 := by simpa [cnt] using h
theorem inCnt_any (x : Int) (w : World) :
    Calls Try.prog 56 #[.int .i64 x, .int .i64 0, .int .i64 1000000000] w fun e w' => e = .returned (.bool (cnt x)) ∧ w' = w := in_any x 0 1000000000 w
/-- What the specification's look at a notification holds on to. -/
structure OkS (w : World) (A : Na) (x : Nt) (u : World) : Prop where
  box : NBox w.heap.size A x u
  nin : NIn u A x
  bel : Below w.heap.size w u
theorem OkS.keep {w : World} {A : Na} {x : Nt} {u u' : World} (h : OkS w A x u) (hb : Below u.heap.size u u') : OkS w A x u' := ⟨h.box.keep hb, h.nin.keep hb, bl_trans h.bel hb⟩
set_option maxRecDepth 100000 in
set_option maxHeartbeats 4000000 in
theorem specNotifyOk_any (A : Na) (x : Nt) (w : World) (hI : NIn w A x) (hn : A.n ≤ 2097152) (hn' : A.n' ≤ 2097152) (hcap : A.n ≤ A.c) :
  Calls Try.prog 22 #[.agg #[.bool x.pm, .slice A.a A.n A.c, .slice A.a' A.n' A.c', .int .i64 x.on, .int .i64 x.sp, .int .i64 x.tk]] w fun e w' => e = .returned (.bool (okN x)) ∧ Below w.heap.size w w' := by
 generalize hW : w.alloc (.cells #[.bool x.pm, .slice A.a A.n A.c, .slice A.a' A.n' A.c', .int .i64 x.on, .int .i64 x.sp, .int .i64 x.tk] 27) = W
 have hS : OkS w A x W := by
  have b0 : Below w.heap.size w W := by subst hW; exact bl_alloc (Below.refl _ _) _
  exact ⟨by subst hW; exact NBox.new w A x _, hI.keep b0, b0⟩
 have hl1 := hI.ints.len
 have hl2 := hI.grs.len
 obtain ⟨_, p0, p1, p2, p3, p4, p5, _⟩ := id hS.box
 have HS := hidOf hS
 clear hI hS
 go_enter Try.func22, Try.ntmps22
 go_wp2_with fail
 refine (specLineOk_any A.a A.n A.c x.ln _ HS.out.nin.ints hn hcap).mono ?_
 rintro e w1 ⟨rfl, hb1⟩
 have hS1 := HS.out.keep hb1
 clear p0 p1 p2 p3 p4 p5 HS hb1 hW
 obtain ⟨_, p0, p1, p2, p3, p4, p5, _⟩ := id hS1.box
 have HS := hidOf hS1
 have HL1 := hidOf hl1
 have HL2 := hidOf hl2
 clear hS1 hl1 hl2
 cases h1 : lineL x.ln
 ·have hr := hidOf (okN_line h1)
  go_wp2
  go_ret
  exact ⟨rbool hr.out.symm, HS.out.bel⟩
 ·have H1 := hidOf h1
  clear h1
  by_cases h2 : (32 : Int) < (A.n' : Int)
  ·have hr := hidOf (okN_long (x := x) (by have := HL2.out; omega))
   go_wp2
   go_ret
   exact ⟨rbool hr.out.symm, HS.out.bel⟩
  ·have H2 := hidOf h2
   have step : ∀ (u : World) (hu : OkS w A x u) (hp : x.pm = true → x.ln.length = 0), True := fun _ _ _ => trivial
   clear step
   cases hpm : x.pm
   ·rw [hpm] at p0
    go_wp2_with fail
    refine (inCnt_any x.on _).mono ?_
    rintro e w2 ⟨rfl, rfl⟩
    cases c1 : cnt x.on
    ·have hr := hidOf (okN_cnt (.inl c1))
     go_wp2
     go_ret
     exact ⟨rbool hr.out.symm, HS.out.bel⟩
    ·have C1 := hidOf c1
     clear c1
     go_wp2_with fail
     refine (inCnt_any x.sp _).mono ?_
     rintro e w3 ⟨rfl, rfl⟩
     cases c2 : cnt x.sp
     ·have hr := hidOf (okN_cnt (.inr (.inl c2)))
      go_wp2
      go_ret
      exact ⟨rbool hr.out.symm, HS.out.bel⟩
     ·have C2 := hidOf c2
      have d2 := cnt_bd c2
      clear c2
      go_wp2_with fail
      refine (inCnt_any x.tk _).mono ?_
      rintro e w4 ⟨rfl, rfl⟩
      cases c3 : cnt x.tk
      ·have hr := hidOf (okN_cnt (.inr (.inr c3)))
       go_wp2
       go_ret
       exact ⟨rbool hr.out.symm, HS.out.bel⟩
      ·have C3 := hidOf c3
       have d3 := cnt_bd c3
       clear c3
       go_wp2_with fail
       go_loopw [3, 4] (fun s i wr => ∃ k : Nat, k ≤ A.n' ∧ i = .int .i64 k ∧ s = .int .i64 (x.tk + x.sp + onesL (x.gs.take k)) ∧ lineTo (whosL x.gs) k = true ∧ apartL x.ln ((whosL x.gs).take k) = true ∧ OkS w A x wr) (fun _ i _ => A.n' - (intOf i).toNat)
       case atStart => exact ⟨0, Nat.zero_le _, rfl, by simp [onesL], lineTo_zero _, rfl, HS.out⟩
       case round =>
        rename_i wr
        obtain ⟨k, hk, rfl, rfl, hto, hap, hR⟩ := hrel
        have hkk : onesL (x.gs.take k) ≤ 32 ∧ 0 ≤ onesL (x.gs.take k) := by
         have := ones_bd (x.gs.take k)
         have h9 : (x.gs.take k).length ≤ k := by simp; omega
         have := H2.out
         omega
        have HTo := hidOf hto
        have HAp := hidOf hap
        have HR := hidOf hR
        clear hto hap HS p0 p1 p2 p3 p4 p5
        obtain ⟨_, p0, p1, p2, p3, p4, p5, _⟩ := id hR.box
        rw [hpm] at p0
        by_cases hlt : k < A.n'
        ·obtain ⟨_, h' | ⟨b, off, e, hb, hcell⟩⟩ := hR.nin.grs
         ·omega
         rw [e] at p2
         have hki : (0 : Int) ≤ (k : Int) ∧ (k : Int) < (A.n' : Int) := by omega
         have hkl : k < x.gs.length := by rw [HL2.out]; exact hlt
         obtain ⟨c1, c2⟩ := hcell k hlt
         have hy0 := whos_at x.gs k
         have hsn := ones_snoc (x.gs.take k) (gg x.gs k)
         rw [← take_gg hkl] at hsn
         obtain ⟨⟨y1, yb⟩, hy⟩ : ∃ y, gg x.gs k = y := ⟨_, rfl⟩
         rw [hy] at c1 c2 hy0 hsn
         simp only at c1 c2 hy0 hsn
         generalize hos : onesL (x.gs.take k) = os at hsn hkk ⊢
         have HY := hidOf hy0
         have HSn := hidOf hsn
         have HKl := hidOf hkl
         have HBA := hidOf (HR.out.keep (bl_alloc (Below.refl wr.heap.size wr) (.cells #[.int .i64 y1, .bool yb] 44)))
         have dd : ∀ (i : Nat) v, wr.cell? ⟨w.heap.size, i, none⟩ = some v → ∀ o, (wr.alloc o).cell? ⟨w.heap.size, i, none⟩ = some v := fun i v h o => by rw [World.cell?_alloc_old _ _ _ (Nat.ne_of_lt (World.block_lt_of_cell? wr _ h))]; exact h
         have z1 := dd _ _ p1
         have z2 := dd _ _ p2
         clear hy hsn hy0 hcell hR dd hkl
         have h5 := l5At_any A.a' A.n' A.c' x.gs y1 _ HBA.out.nin.grs (by omega)
         rw [e] at h5
         generalize hpl : placeL (whosL x.gs) y1 = pl at h5
         have HPl := hidOf hpl
         have HAt := hidOf h5
         clear e h5 hpl
         cases t1 : clientL y1
         ·have hr := hidOf (okN_bad HKl.out HY.out (.inl t1))
          go_wp2_with (first | (go_at_call 57; refine (client_any _ _).mono ?_; rintro e w5 ⟨rfl, rfl⟩; rw [t1]) | (go_at_call 47; refine (HAt.out).mono ?_; rintro e w6 ⟨rfl, rfl⟩) | (go_at_call 48; refine (l2Has_any A.a A.n A.c x.ln y1 _ HBA.out.nin.ints (by omega)).mono ?_; rintro e w7 ⟨rfl, rfl⟩; rw [t3]))
          go_wp2
          go_ret
          exact ⟨rbool hr.out.symm, HBA.out.bel⟩
         ·cases t2 : hasL ((whosL x.gs).take k) y1
          ·have hp := hidOf (place_is (by rw [whos_len]; exact HKl.out) HY.out t2)
           have hp' := hp.out
           rw [HPl.out] at hp'
           cases t3 : hasL x.ln y1
           ·have hnx := hidOf (lineTo_step HTo.out HY.out t1 t2)
            have hax := hidOf (apart_step (by rw [whos_len]; exact HKl.out) HY.out HAp.out t3)
            cases yb
            ·go_wp2_with (first | (go_at_call 57; refine (client_any _ _).mono ?_; rintro e w5 ⟨rfl, rfl⟩; rw [t1]) | (go_at_call 47; refine (HAt.out).mono ?_; rintro e w6 ⟨rfl, rfl⟩) | (go_at_call 48; refine (l2Has_any A.a A.n A.c x.ln y1 _ HBA.out.nin.ints (by omega)).mono ?_; rintro e w7 ⟨rfl, rfl⟩; rw [t3]))
             go_wp2
             go_roundw
             case rel => exact ⟨k + 1, by omega, by go_num, by rw [HSn.out]; first | go_num | simp, hnx.out, hax.out, HBA.out⟩
             case measure => simp [intOf]; omega
            ·go_wp2_with (first | (go_at_call 57; refine (client_any _ _).mono ?_; rintro e w5 ⟨rfl, rfl⟩; rw [t1]) | (go_at_call 47; refine (HAt.out).mono ?_; rintro e w6 ⟨rfl, rfl⟩) | (go_at_call 48; refine (l2Has_any A.a A.n A.c x.ln y1 _ HBA.out.nin.ints (by omega)).mono ?_; rintro e w7 ⟨rfl, rfl⟩; rw [t3]))
             go_wp2
             go_roundw
             case rel => exact ⟨k + 1, by omega, by go_num, by rw [HSn.out]; first | go_num | simp, hnx.out, hax.out, HBA.out⟩
             case measure => simp [intOf]; omega
           ·have hr := hidOf (okN_bad HKl.out HY.out (.inr (.inr t3)))
            go_wp2_with (first | (go_at_call 57; refine (client_any _ _).mono ?_; rintro e w5 ⟨rfl, rfl⟩; rw [t1]) | (go_at_call 47; refine (HAt.out).mono ?_; rintro e w6 ⟨rfl, rfl⟩) | (go_at_call 48; refine (l2Has_any A.a A.n A.c x.ln y1 _ HBA.out.nin.ints (by omega)).mono ?_; rintro e w7 ⟨rfl, rfl⟩; rw [t3]))
            go_wp2
            go_ret
            exact ⟨rbool hr.out.symm, HBA.out.bel⟩
          ·have hr := hidOf (okN_bad HKl.out HY.out (.inr (.inl t2)))
           have hp' := place_ne t2
           rw [HPl.out] at hp'
           go_wp2_with (first | (go_at_call 57; refine (client_any _ _).mono ?_; rintro e w5 ⟨rfl, rfl⟩; rw [t1]) | (go_at_call 47; refine (HAt.out).mono ?_; rintro e w6 ⟨rfl, rfl⟩) | (go_at_call 48; refine (l2Has_any A.a A.n A.c x.ln y1 _ HBA.out.nin.ints (by omega)).mono ?_; rintro e w7 ⟨rfl, rfl⟩; rw [t3]))
           go_wp2
           go_ret
           exact ⟨rbool hr.out.symm, HBA.out.bel⟩
        ·obtain rfl : k = A.n' := by omega
         have hke : x.gs.take A.n' = x.gs := List.take_of_length_le (by rw [HL2.out]; exact Nat.le_refl _)
         have hwe : (whosL x.gs).take A.n' = whosL x.gs := List.take_of_length_le (by rw [whos_len, HL2.out]; exact Nat.le_refl _)
         have hr : okN x = decide (x.on = heldN x) := okN_end H1.out (by have := HL2.out; have := H2.out; omega) (fun h => by rw [hpm] at h; cases h) C1.out C2.out C3.out (by rw [HL2.out]; exact HTo.out) (by have := HAp.out; rw [hwe] at this; exact this)
         have HRr := hidOf hr
         rw [hke] at hkk ⊢
         have hhd : heldN x = x.tk + x.sp + onesL x.gs := by unfold heldN; rw [hpm]; simp [permI]; try omega
         have HHd := hidOf hhd
         have HB := hidOf hR.bel
         clear hr hhd hke hwe hR
         generalize onesL x.gs = os at *
         go_wp2
         go_ret
         exact ⟨rbool (by rw [HRr.out, HHd.out, Bool.eq_iff_iff]; simp; try omega), HB.out⟩
   ·rw [hpm] at p0
    by_cases h3 : (0 : Int) < (A.n : Int)
    ·have hr := hidOf (okN_perm (x := x) hpm (by have := HL1.out; omega))
     go_wp2
     go_ret
     exact ⟨rbool hr.out.symm, HS.out.bel⟩
    ·go_wp2_with fail
     refine (inCnt_any x.on _).mono ?_
     rintro e w2 ⟨rfl, rfl⟩
     cases c1 : cnt x.on
     ·have hr := hidOf (okN_cnt (.inl c1))
      go_wp2
      go_ret
      exact ⟨rbool hr.out.symm, HS.out.bel⟩
     ·have C1 := hidOf c1
      clear c1
      go_wp2_with fail
      refine (inCnt_any x.sp _).mono ?_
      rintro e w3 ⟨rfl, rfl⟩
      cases c2 : cnt x.sp
      ·have hr := hidOf (okN_cnt (.inr (.inl c2)))
       go_wp2
       go_ret
       exact ⟨rbool hr.out.symm, HS.out.bel⟩
      ·have C2 := hidOf c2
       have d2 := cnt_bd c2
       clear c2
       go_wp2_with fail
       refine (inCnt_any x.tk _).mono ?_
       rintro e w4 ⟨rfl, rfl⟩
       cases c3 : cnt x.tk
       ·have hr := hidOf (okN_cnt (.inr (.inr c3)))
        go_wp2
        go_ret
        exact ⟨rbool hr.out.symm, HS.out.bel⟩
       ·have C3 := hidOf c3
        have d3 := cnt_bd c3
        clear c3
        go_wp2_with fail
        go_loopw [3, 4] (fun s i wr => ∃ k : Nat, k ≤ A.n' ∧ i = .int .i64 k ∧ s = .int .i64 (x.tk + x.sp + 1 + onesL (x.gs.take k)) ∧ lineTo (whosL x.gs) k = true ∧ apartL x.ln ((whosL x.gs).take k) = true ∧ OkS w A x wr) (fun _ i _ => A.n' - (intOf i).toNat)
        case atStart => exact ⟨0, Nat.zero_le _, rfl, by simp [onesL], lineTo_zero _, rfl, HS.out⟩
        case round =>
         rename_i wr
         obtain ⟨k, hk, rfl, rfl, hto, hap, hR⟩ := hrel
         have hkk : onesL (x.gs.take k) ≤ 32 ∧ 0 ≤ onesL (x.gs.take k) := by
          have := ones_bd (x.gs.take k)
          have h9 : (x.gs.take k).length ≤ k := by simp; omega
          have := H2.out
          omega
         have HTo := hidOf hto
         have HAp := hidOf hap
         have HR := hidOf hR
         clear hto hap HS p0 p1 p2 p3 p4 p5
         obtain ⟨_, p0, p1, p2, p3, p4, p5, _⟩ := id hR.box
         rw [hpm] at p0
         by_cases hlt : k < A.n'
         ·obtain ⟨_, h' | ⟨b, off, e, hb, hcell⟩⟩ := hR.nin.grs
          ·omega
          rw [e] at p2
          have hki : (0 : Int) ≤ (k : Int) ∧ (k : Int) < (A.n' : Int) := by omega
          have hkl : k < x.gs.length := by rw [HL2.out]; exact hlt
          obtain ⟨c1, c2⟩ := hcell k hlt
          have hy0 := whos_at x.gs k
          have hsn := ones_snoc (x.gs.take k) (gg x.gs k)
          rw [← take_gg hkl] at hsn
          obtain ⟨⟨y1, yb⟩, hy⟩ : ∃ y, gg x.gs k = y := ⟨_, rfl⟩
          rw [hy] at c1 c2 hy0 hsn
          simp only at c1 c2 hy0 hsn
          generalize hos : onesL (x.gs.take k) = os at hsn hkk ⊢
          have HY := hidOf hy0
          have HSn := hidOf hsn
          have HKl := hidOf hkl
          have HBA := hidOf (HR.out.keep (bl_alloc (Below.refl wr.heap.size wr) (.cells #[.int .i64 y1, .bool yb] 44)))
          have dd : ∀ (i : Nat) v, wr.cell? ⟨w.heap.size, i, none⟩ = some v → ∀ o, (wr.alloc o).cell? ⟨w.heap.size, i, none⟩ = some v := fun i v h o => by rw [World.cell?_alloc_old _ _ _ (Nat.ne_of_lt (World.block_lt_of_cell? wr _ h))]; exact h
          have z1 := dd _ _ p1
          have z2 := dd _ _ p2
          clear hy hsn hy0 hcell hR dd hkl
          have h5 := l5At_any A.a' A.n' A.c' x.gs y1 _ HBA.out.nin.grs (by omega)
          rw [e] at h5
          generalize hpl : placeL (whosL x.gs) y1 = pl at h5
          have HPl := hidOf hpl
          have HAt := hidOf h5
          clear e h5 hpl
          cases t1 : clientL y1
          ·have hr := hidOf (okN_bad HKl.out HY.out (.inl t1))
           go_wp2_with (first | (go_at_call 57; refine (client_any _ _).mono ?_; rintro e w5 ⟨rfl, rfl⟩; rw [t1]) | (go_at_call 47; refine (HAt.out).mono ?_; rintro e w6 ⟨rfl, rfl⟩) | (go_at_call 48; refine (l2Has_any A.a A.n A.c x.ln y1 _ HBA.out.nin.ints (by omega)).mono ?_; rintro e w7 ⟨rfl, rfl⟩; rw [t3]))
           go_wp2
           go_ret
           exact ⟨rbool hr.out.symm, HBA.out.bel⟩
          ·cases t2 : hasL ((whosL x.gs).take k) y1
           ·have hp := hidOf (place_is (by rw [whos_len]; exact HKl.out) HY.out t2)
            have hp' := hp.out
            rw [HPl.out] at hp'
            cases t3 : hasL x.ln y1
            ·have hnx := hidOf (lineTo_step HTo.out HY.out t1 t2)
             have hax := hidOf (apart_step (by rw [whos_len]; exact HKl.out) HY.out HAp.out t3)
             cases yb
             ·go_wp2_with (first | (go_at_call 57; refine (client_any _ _).mono ?_; rintro e w5 ⟨rfl, rfl⟩; rw [t1]) | (go_at_call 47; refine (HAt.out).mono ?_; rintro e w6 ⟨rfl, rfl⟩) | (go_at_call 48; refine (l2Has_any A.a A.n A.c x.ln y1 _ HBA.out.nin.ints (by omega)).mono ?_; rintro e w7 ⟨rfl, rfl⟩; rw [t3]))
              go_wp2
              go_roundw
              case rel => exact ⟨k + 1, by omega, by go_num, by rw [HSn.out]; first | go_num | simp, hnx.out, hax.out, HBA.out⟩
              case measure => simp [intOf]; omega
             ·go_wp2_with (first | (go_at_call 57; refine (client_any _ _).mono ?_; rintro e w5 ⟨rfl, rfl⟩; rw [t1]) | (go_at_call 47; refine (HAt.out).mono ?_; rintro e w6 ⟨rfl, rfl⟩) | (go_at_call 48; refine (l2Has_any A.a A.n A.c x.ln y1 _ HBA.out.nin.ints (by omega)).mono ?_; rintro e w7 ⟨rfl, rfl⟩; rw [t3]))
              go_wp2
              go_roundw
              case rel => exact ⟨k + 1, by omega, by go_num, by rw [HSn.out]; first | go_num | simp, hnx.out, hax.out, HBA.out⟩
              case measure => simp [intOf]; omega
            ·have hr := hidOf (okN_bad HKl.out HY.out (.inr (.inr t3)))
             go_wp2_with (first | (go_at_call 57; refine (client_any _ _).mono ?_; rintro e w5 ⟨rfl, rfl⟩; rw [t1]) | (go_at_call 47; refine (HAt.out).mono ?_; rintro e w6 ⟨rfl, rfl⟩) | (go_at_call 48; refine (l2Has_any A.a A.n A.c x.ln y1 _ HBA.out.nin.ints (by omega)).mono ?_; rintro e w7 ⟨rfl, rfl⟩; rw [t3]))
             go_wp2
             go_ret
             exact ⟨rbool hr.out.symm, HBA.out.bel⟩
           ·have hr := hidOf (okN_bad HKl.out HY.out (.inr (.inl t2)))
            have hp' := place_ne t2
            rw [HPl.out] at hp'
            go_wp2_with (first | (go_at_call 57; refine (client_any _ _).mono ?_; rintro e w5 ⟨rfl, rfl⟩; rw [t1]) | (go_at_call 47; refine (HAt.out).mono ?_; rintro e w6 ⟨rfl, rfl⟩) | (go_at_call 48; refine (l2Has_any A.a A.n A.c x.ln y1 _ HBA.out.nin.ints (by omega)).mono ?_; rintro e w7 ⟨rfl, rfl⟩; rw [t3]))
            go_wp2
            go_ret
            exact ⟨rbool hr.out.symm, HBA.out.bel⟩
         ·obtain rfl : k = A.n' := by omega
          have hke : x.gs.take A.n' = x.gs := List.take_of_length_le (by rw [HL2.out]; exact Nat.le_refl _)
          have hwe : (whosL x.gs).take A.n' = whosL x.gs := List.take_of_length_le (by rw [whos_len, HL2.out]; exact Nat.le_refl _)
          have hr : okN x = decide (x.on = heldN x) := okN_end H1.out (by have := HL2.out; have := H2.out; omega) (fun _ => by have := HL1.out; omega) C1.out C2.out C3.out (by rw [HL2.out]; exact HTo.out) (by have := HAp.out; rw [hwe] at this; exact this)
          have HRr := hidOf hr
          rw [hke] at hkk ⊢
          have hhd : heldN x = x.tk + x.sp + 1 + onesL x.gs := by unfold heldN; rw [hpm]; simp [permI]; try omega
          have HHd := hidOf hhd
          have HB := hidOf hR.bel
          clear hr hhd hke hwe hR
          generalize onesL x.gs = os at *
          go_wp2
          go_ret
          exact ⟨rbool (by rw [HRr.out, HHd.out, Bool.eq_iff_iff]; simp; try omega), HB.out⟩
end Go.Proofs.Ytfgknbflgmblmaa
