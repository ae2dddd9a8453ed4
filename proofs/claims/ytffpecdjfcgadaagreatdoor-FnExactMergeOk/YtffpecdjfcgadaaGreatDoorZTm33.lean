/-
  The program's filters: compiled.
  The program's terms that take nothing: which function value a term is compiled to.
  The program's rings: a right subscriber; the oldest; a subscriber's place.
  The program's rings: the oldest; a subscriber's place.
  The walk of the function that makes a message's body.
  The walk of the function that makes a message's body: texts, and what is neither.
  Walks: a right message told by the program's own function; what the law's own functions answer.
  The program's rings: right subscribers, right messages.
-/
import Derived.Test.YtffpecdjfcgadaaGreatDoorZTm32
import Derived.Deep.RegionHeld3
import Derived.Deep.RegionWith
import Derived.Test.YtffpecdjfcgadaaGreatDoorZTm18
namespace Go.Proofs.YtffpecdjfcgadaaGreatDoor
open Go.RowKit Pl Il

theorem cellH {w w' : World} {a : Addr} {v : Value} (h : w.cell? a = some v) (hb : Below w.heap.size w w') : w'.cell? a = some v := by
  rw [hb.cell (p := a) (World.block_lt_of_cell? w a h)]; exact h
/-- What the test of a round reads. -/
abbrev RdC (L X : Nat) (v : Value) (z : Tm) (u0 w : World) : Prop :=
  w.cell? ⟨L, 0, none⟩ = some v ∧ w.cell? ⟨X, 0, none⟩ = some (.int .i64 z.1) ∧ w.cell? ⟨X, 1, none⟩ = some (.int .i64 z.2.1) ∧ w.cell? ⟨X, 2, none⟩ = some (.string z.2.2) ∧ Below u0.heap.size u0 w
theorem RdC.keep {L X : Nat} {v : Value} {z : Tm} {u0 w w' : World} (h : RdC L X v z u0 w) (hb : Below w.heap.size w w') : RdC L X v z u0 w' :=
  ⟨cellH h.1 hb, cellH h.2.1 hb, cellH h.2.2.1 hb, cellH h.2.2.2.1 hb, bl_trans h.2.2.2.2 hb⟩
theorem RdC.drew {L X : Nat} {v : Value} {z : Tm} {u0 w : World} (h : RdC L X v z u0 w) : RdC L X v z u0 w.drew := h.keep (Below.refl _ _).drew
theorem passP_end {f : List Tm} (h : f ≠ []) : passP f = pg (runP f) 0 := by unfold passP; rw [if_neg h]
/-- What compiling answers. -/
def CompP (R : List Nat → World → Value → Pd → Prop) (ts : List Tm) (w : World) (e : Ending) (w' : World) : Prop :=
  ∃ x, e = .returned (.tuple #[x, .bool (okF ts)]) ∧ (okF ts = true → ∃ F, R F w' x (passP ts)) ∧ Below w.heap.size w w'
theorem compile_nil {R : List Nat → World → Value → Pd → Prop} (S : Sys R) (a : Option Addr) (cap : Nat) (w : World) :
    Calls Tryz.prog 104 #[.slice a 0 cap] w fun e w' => CompP R [] w e w' := by
  go_enter Tryz.func104, Tryz.ntmps104
  go_wp2
  first | go_ret | go_ret2
  exact ⟨_, rfl, fun _ => ⟨[], by rw [show passP [] = fun _ => true from rfl]; exact S.all w⟩, Below.refl _ _⟩
theorem compile_long {R : List Nat → World → Value → Pd → Prop} (a : Option Addr) (n cap : Nat) (ts : List Tm) (w : World) (hl : ts.length = n) (hn : n ≤ 9223372036854775807) (h : 12 < (n : Int)) :
    Calls Tryz.prog 104 #[.slice a n cap] w fun e w' => CompP R ts w e w' := by
  have hq := okF_long (f := ts) (by omega)
  have h0 : ((n : Int) == 0) = false := by simp; omega
  have HQ := hidOf hq
  clear hq hl
  go_enter Tryz.func104, Tryz.ntmps104
  go_wp2
  first | go_ret | go_ret2
  exact ⟨_, (by rw [HQ.out]; rfl), fun h => (by rw [HQ.out] at h; cases h), Below.refl _ _⟩
set_option maxHeartbeats 4000000 in
theorem compile_some {R : List Nat → World → Value → Pd → Prop} (S : Sys R) (a : Option Addr) (n cap : Nat) (ts : List Tm) (w : World) (hI : TmAt w a n ts) (h0 : 0 < n) (h : n ≤ 12) :
    Calls Tryz.prog 104 #[.slice a n cap] w fun e w' => CompP R ts w e w' := by
  obtain ⟨hlen, hsh, hr⟩ := hI
  have e0 : ((n : Int) == 0) = false := by simp; omega
  have e1 : ¬ 12 < (n : Int) := by omega
  have HS := hidOf hsh
  have HL := hidOf hlen
  have HR := hidOf hr
  have hst : Stk R w w.heap.size (.slice none 0 0) [] [] (w.alloc (.cells #[.slice none 0 0] 175)) :=
    ⟨bl_alloc (Below.refl _ _) _, Nat.le_refl _, new_blk w _ _, World.ownsRow_nil _ _ _ _, rfl, fun i hi => by simp at hi⟩
  have HST := hidOf hst
  clear hsh hlen hr hst
  go_enter Tryz.func104, Tryz.ntmps104
  go_wp2_with fail
  go_loopw [15] (fun i wr => ∃ (k m : Nat) (v : Value) (vs : List Value), k ≤ n ∧ i = .int .i64 k ∧ goN (ts.take k) 0 = some m ∧ vs.length = m ∧ Stk R w w.heap.size v vs (runP (ts.take k)) wr) (fun i _ => n - (intOf i).toNat)
  case atStart => exact ⟨0, 0, _, [], Nat.zero_le _, rfl, rfl, rfl, HST.out⟩
  case round =>
    rename_i wr
    obtain ⟨k, m, v, vs, hk, rfl, hgo, hvm, hS⟩ := hrel
    have HG := hidOf hgo
    clear hgo HST
    obtain ⟨hc, hlt, hfr⟩ := blk_cell hS.blk
    have hform : ∃ q c, v = .slice q m c := by
      obtain ⟨_, ⟨rfl, h⟩ | ⟨g, cp, cur, rfl, _⟩⟩ := id hS.row
      · exact ⟨_, _, by rw [← hvm, h]⟩
      · exact ⟨_, _, by rw [← hvm]⟩
    obtain ⟨q, c, rfl⟩ := hform
    by_cases hkn : k < n
    · have hkl : k < ts.length := by rw [HL.out]; exact hkn
      have hm12 : m ≤ 12 := by have := goN_le _ _ _ HG.out; simp at this; omega
      obtain hr | ⟨b, off, rfl, hb, hcell⟩ := HR.out
      · omega
      obtain ⟨q0, q1, q2⟩ := hcell k hkn
      have hB := hS.below
      have hc1 := cellH q0 hB
      have hc2 := cellH q1 hB
      have hc3 := cellH q2 hB
      have hz3 := HS.out _ (qg_mem hkl)
      have HK := hidOf hkl
      obtain ⟨z, hz⟩ : ∃ z, qg ts k = z := ⟨_, rfl⟩
      rw [hz] at hc1 hc2 hc3 hz3
      have HZ := hidOf hz
      obtain ⟨W, hW⟩ : ∃ W, W = wr.alloc (.cells #[.int .i64 z.1, .int .i64 z.2.1, .string z.2.2] 145) := ⟨_, rfl⟩
      have bW : Below wr.heap.size wr W := by rw [hW]; exact bl_alloc (Below.refl _ _) _
      have xW : Box3 wr.heap.size (.int .i64 z.1) (.int .i64 z.2.1) (.string z.2.2) W := by rw [hW]; exact Box3.new wr _ _ _ _
      have hSW := hidOf (hS.keep S bW)
      have hRd : RdC w.heap.size wr.heap.size (.slice q m c) z W W := ⟨cellH hc bW, xW.c0, xW.c1, xW.c2, Below.refl _ _⟩
      have hcl := cnt_le z.1
      have HC1 := fun u => hidOf (termOk_any z u hz3)
      have HC2 := fun u => hidOf (countTaken_any z.1 u)
      clear hz hcell q0 q1 q2 hkl bW xW hB hfr hS
      cases hok : okTm z
      · have HQ := hidOf (okF_stop HK.out HG.out (.inl (by rw [HZ.out]; exact hok)))
        rw [hok] at HC1
        go_wp2_with fail
        rw [← hW]
        clear hW
        first | (go_region_with (first | (go_at_call 110; refine ((HC1 _).out).mono ?_; rintro e w1 ⟨rfl, hb1⟩; have hS2 := hSW.out.keep S ((Below.refl _ _).drew.trans hb1); have HB2 := hidOf hS2.below; clear hb1 hS2))) | fail
        all_goals (try go_wp2)
        all_goals (first | go_ret | go_ret2)
        all_goals exact ⟨_, (by rw [HQ.out]; rfl), fun h => (by rw [HQ.out] at h; cases h), HB2.out⟩
      · rw [hok] at HC1
        obtain ⟨d, hd⟩ : ∃ d, cntM z.1 = d := ⟨_, rfl⟩
        rw [hd] at hcl HC2
        by_cases hmd : (m : Int) < (d : Int)
        · have HQ := hidOf (okF_stop HK.out HG.out (.inr (by rw [HZ.out, hd]; omega)))
          go_wp2_with fail
          rw [← hW]
          clear hW
          go_region_held3 (fun w' => RdC w.heap.size wr.heap.size (.slice q m c) z W w') (first | (exact hRd.drew) | assumption | (exact RdC.keep (by assumption) (by assumption))) (first | (go_at_call 110; refine ((HC1 _).out).mono ?_; rintro e w1 ⟨rfl, hb1⟩) | (go_at_call 111; refine ((HC2 _).out).mono ?_; rintro e w1 ⟨rfl, rfl⟩))
          rename_i hT
          have hS2 := hSW.out.keep S hT.2.2.2.2
          go_wp2
          first | go_ret | go_ret2
          exact ⟨_, (by rw [HQ.out]; rfl), fun h => (by rw [HQ.out] at h; cases h), hS2.below⟩
        · have HQ := hidOf (goN_step HK.out HG.out (by rw [HZ.out]; exact hok) (by rw [HZ.out, hd]; omega))
          rw [HZ.out, hd] at HQ
          have HP := hidOf (runP_step HK.out)
          rw [HZ.out] at HP
          go_wp2_with fail
          rw [← hW]
          clear hW
          go_region_held3 (fun w' => RdC w.heap.size wr.heap.size (.slice q m c) z W w') (first | (exact hRd.drew) | assumption | (exact RdC.keep (by assumption) (by assumption))) (first | (go_at_call 110; refine ((HC1 _).out).mono ?_; rintro e w1 ⟨rfl, hb1⟩) | (go_at_call 111; refine ((HC2 _).out).mono ?_; rintro e w1 ⟨rfl, rfl⟩))
          rename_i w2 hT
          have hS2 := hSW.out.keep S hT.2.2.2.2
          have HA := hidOf (add_any S w w.heap.size _ vs _ z _ hS2 hok (by rw [hvm, hd]; omega) hz3 (by omega))
          obtain ⟨_, t0, t1, t2, _⟩ := hT
          clear hS2 hRd HC1 HC2 hok
          go_wp2_with fail
          refine (HA.out).mono ?_
          rintro e w3 ⟨rfl, v3, vs3, hS3⟩
          have hl3 := hS3.len
          have HS3 := hidOf hS3
          clear HA hS3 t0 t1 t2
          go_wp2
          go_roundw
          case rel =>
            refine ⟨k + 1, m - d + 1, v3, vs3, by omega, by go_num, HQ.out, ?_, by rw [HP.out]; exact HS3.out⟩
            have e := runP_len (f := ts) (k := k + 1) (by have := HL.out; omega) HQ.out
            rw [← e, HP.out, hl3]
          case measure => simp [intOf]; omega
    · obtain rfl : k = n := by omega
      have hT : ts.take k = ts := List.take_of_length_le (by rw [HL.out]; exact Nat.le_refl _)
      have hg : goN ts 0 = some m := by have := HG.out; rwa [hT] at this
      have hpos : 1 ≤ m := goN_pos (f := ts) (k := k) (by omega) (by rw [HL.out]; exact Nat.le_refl _) HG.out
      have hne : ts ≠ [] := by rintro rfl; have := HL.out; simp at this; omega
      have HQ := hidOf (okF_end (f := ts) hne (by have := HL.out; omega) hg)
      rw [hT] at hS
      obtain ⟨g, cp, hv, _, _⟩ := hS.row.form (by omega)
      rw [hvm] at hv
      cases hv
      obtain ⟨F, hR, _⟩ := hS.rep 0 (by omega)
      have hx : wr.cell? ⟨g, 0, none⟩ = some (vs.getD 0 .nilFunc) := by
        have hrow := hS.row
        rw [hvm] at hrow
        rw [hrow.cellAt 0 (by omega)]
        have : 0 < vs.length := by omega
        simp [List.getD, List.getElem?_eq_getElem this]
      have HF := hidOf (And.intro hR hS.below)
      have HP := hidOf (passP_end hne)
      obtain ⟨kx, cx, hfx⟩ := S.isfn hR
      rw [hfx] at hx HF
      clear hS hR hg hT hfx hvm
      by_cases hm1 : (m : Int) = 1
      · have ee : ((m : Int) == 1) = true := by simp [hm1]
        have HM := hidOf (HQ.out.trans (by simp [hm1] : _ = true))
        clear hm1
        go_wp2_with fail
        go_region
        all_goals (try go_wp2)
        all_goals (first | go_ret | go_ret2)
        all_goals exact ⟨_, (by rw [HM.out]; rfl), fun _ => ⟨F, by rw [HP.out]; exact S.frame HF.out.1 (Nat.le_refl _) (fun _ _ => rfl)⟩, HF.out.2.drew⟩
      · have ee : ((m : Int) == 1) = false := by simp [hm1]
        have HM := hidOf (HQ.out.trans (by simp [hm1] : _ = false))
        clear hm1
        go_wp2_with fail
        go_region
        all_goals (try go_wp2)
        all_goals (first | go_ret | go_ret2)
        all_goals exact ⟨_, (by rw [HM.out]; rfl), fun h => (by rw [HM.out] at h; cases h), HF.out.2.drew⟩
theorem compile_any {R : List Nat → World → Value → Pd → Prop} (S : Sys R) (a : Option Addr) (n cap : Nat) (ts : List Tm) (w : World) (hI : TmAt w a n ts) (hn : n ≤ 9223372036854775807) :
    Calls Tryz.prog 104 #[.slice a n cap] w fun e w' => CompP R ts w e w' := by
  rcases Nat.eq_zero_or_pos n with rfl | h0
  · obtain rfl : ts = [] := List.length_eq_zero_iff.1 hI.len
    exact compile_nil S a cap w
  · by_cases h : n ≤ 12
    · exact compile_some S a n cap ts w hI h0 h
    · exact compile_long a n cap ts w hI.len hn (by omega)
end Go.Proofs.YtffpecdjfcgadaaGreatDoor
namespace Go.Proofs.YtffpecdjfcgadaaGreatDoor
open Go.RowKit Pl Il

theorem ofNumber_any (k : Nat) (caps : Array Value) (u : World) : Calls Tryz.prog 129 #[.func (.func k) #[] caps] u fun e u' => e = .returned (.func (.func 141) #[] #[.pointer (some ⟨u.heap.size, 0, none⟩)]) ∧ u' = u.alloc (.cells #[.func (.func k) #[] caps] 61) := by
  go_enter Tryz.func129, Tryz.ntmps129
  go_wp2
  go_ret
  exact ⟨rfl, rfl⟩
theorem ofText_any (k : Nat) (caps : Array Value) (u : World) : Calls Tryz.prog 131 #[.func (.func k) #[] caps] u fun e u' => e = .returned (.func (.func 142) #[] #[.pointer (some ⟨u.heap.size, 0, none⟩)]) ∧ u' = u.alloc (.cells #[.func (.func k) #[] caps] 68) := by
  go_enter Tryz.func131, Tryz.ntmps131
  go_wp2
  go_ret
  exact ⟨rfl, rfl⟩
def tmO (op n : Int) (s : ByteArray) : Obj := .cells #[.int .i64 op, .int .i64 n, .string s] 145
theorem testOf_1 (n : Int) (s : ByteArray) (u : World) : Calls Tryz.prog 123 #[.agg #[.int .i64 1, .int .i64 n, .string s]] u fun e u' => e = .returned (.func (.func 109) #[] #[]) ∧ u' = u.alloc (tmO 1 n s) := by
  go_enter Tryz.func123, Tryz.ntmps123
  go_wp2
  go_ret
  exact ⟨rfl, rfl⟩
theorem testOf_2 (n : Int) (s : ByteArray) (u : World) : Calls Tryz.prog 123 #[.agg #[.int .i64 2, .int .i64 n, .string s]] u fun e u' => e = .returned (.func (.func 141) #[] #[.pointer (some ⟨u.heap.size + 1, 0, none⟩)]) ∧ u' = (u.alloc (tmO 2 n s)).alloc (.cells #[.func (.func 130) #[] #[]] 61) := by
  go_enter Tryz.func123, Tryz.ntmps123
  go_wp2_with fail
  refine (ofNumber_any _ _ _).mono ?_
  rintro e w1 ⟨rfl, rfl⟩
  go_wp2
  go_ret
  exact ⟨by simp, rfl⟩
theorem testOf_3 (n : Int) (s : ByteArray) (u : World) : Calls Tryz.prog 123 #[.agg #[.int .i64 3, .int .i64 n, .string s]] u fun e u' => e = .returned (.func (.func 142) #[] #[.pointer (some ⟨u.heap.size + 1, 0, none⟩)]) ∧ u' = (u.alloc (tmO 3 n s)).alloc (.cells #[.func (.func 132) #[] #[]] 68) := by
  go_enter Tryz.func123, Tryz.ntmps123
  go_wp2_with fail
  refine (ofText_any _ _ _).mono ?_
  rintro e w1 ⟨rfl, rfl⟩
  go_wp2
  go_ret
  exact ⟨by simp, rfl⟩
theorem testOf_4 (n : Int) (s : ByteArray) (u : World) : Calls Tryz.prog 123 #[.agg #[.int .i64 4, .int .i64 n, .string s]] u fun e u' => e = .returned (.func (.func 141) #[] #[.pointer (some ⟨u.heap.size + 1, 0, none⟩)]) ∧ u' = (u.alloc (tmO 4 n s)).alloc (.cells #[.func (.func 133) #[] #[.pointer (some ⟨u.heap.size, 0, none⟩)]] 61) := by
  go_enter Tryz.func123, Tryz.ntmps123
  go_wp2_with fail
  refine (ofNumber_any _ _ _).mono ?_
  rintro e w1 ⟨rfl, rfl⟩
  go_wp2
  go_ret
  exact ⟨by simp, rfl⟩
theorem testOf_5 (n : Int) (s : ByteArray) (u : World) : Calls Tryz.prog 123 #[.agg #[.int .i64 5, .int .i64 n, .string s]] u fun e u' => e = .returned (.func (.func 141) #[] #[.pointer (some ⟨u.heap.size + 1, 0, none⟩)]) ∧ u' = (u.alloc (tmO 5 n s)).alloc (.cells #[.func (.func 134) #[] #[.pointer (some ⟨u.heap.size, 0, none⟩)]] 61) := by
  go_enter Tryz.func123, Tryz.ntmps123
  go_wp2_with fail
  refine (ofNumber_any _ _ _).mono ?_
  rintro e w1 ⟨rfl, rfl⟩
  go_wp2
  go_ret
  exact ⟨by simp, rfl⟩
theorem testOf_6 (n : Int) (s : ByteArray) (u : World) : Calls Tryz.prog 123 #[.agg #[.int .i64 6, .int .i64 n, .string s]] u fun e u' => e = .returned (.func (.func 142) #[] #[.pointer (some ⟨u.heap.size + 1, 0, none⟩)]) ∧ u' = (u.alloc (tmO 6 n s)).alloc (.cells #[.func (.func 135) #[] #[.pointer (some ⟨u.heap.size, 0, none⟩)]] 68) := by
  go_enter Tryz.func123, Tryz.ntmps123
  go_wp2_with fail
  refine (ofText_any _ _ _).mono ?_
  rintro e w1 ⟨rfl, rfl⟩
  go_wp2
  go_ret
  exact ⟨by simp, rfl⟩
theorem testOf_7 (n : Int) (s : ByteArray) (u : World) : Calls Tryz.prog 123 #[.agg #[.int .i64 7, .int .i64 n, .string s]] u fun e u' => e = .returned (.func (.func 142) #[] #[.pointer (some ⟨u.heap.size + 1, 0, none⟩)]) ∧ u' = (u.alloc (tmO 7 n s)).alloc (.cells #[.func (.func 137) #[] #[.pointer (some ⟨u.heap.size, 0, none⟩)]] 68) := by
  go_enter Tryz.func123, Tryz.ntmps123
  go_wp2_with fail
  refine (ofText_any _ _ _).mono ?_
  rintro e w1 ⟨rfl, rfl⟩
  go_wp2
  go_ret
  exact ⟨by simp, rfl⟩
theorem leaf_ops {t : Tm} (h : okTm t = true) (hc : cntM t.1 = 0) : t.1 = 1 ∨ t.1 = 2 ∨ t.1 = 3 ∨ t.1 = 4 ∨ t.1 = 5 ∨ t.1 = 6 ∨ t.1 = 7 := by
  unfold okTm at h
  unfold cntM at hc
  split at hc
  · cases hc
  · split at hc
    · cases hc
    · split at h
      · omega
      · split at h
        · omega
        · split at h
          · omega
          · split at h
            · omega
            · cases h
/-- The weak relation: a function value, whatever it does. -/
def AnyFn (F : List Nat) (u : World) (v : Value) (_ : Pd) : Prop := IsFn v ∧ ∀ j, j ∈ F → j < u.heap.size
theorem anySys : Sys AnyFn where
  isfn := fun h => h.1
  frame := fun h hs _ => ⟨h.1, fun j hj => Nat.lt_of_lt_of_le (h.2 j hj) hs⟩
  lt := fun h => h.2
  all := fun _ => ⟨⟨_, _, rfl⟩, fun j hj => by cases hj⟩
  leaf := fun t u hok hc _ => by
    obtain ⟨op, n, s⟩ := t
    have h := leaf_ops hok hc
    simp only at h ⊢
    rcases h with rfl | rfl | rfl | rfl | rfl | rfl | rfl
    · exact (testOf_1 n s u).mono fun e u' ⟨he, hu⟩ => ⟨_, [], he, ⟨⟨_, _, rfl⟩, fun j hj => (by cases hj)⟩, fun j hj => (by cases hj), hu ▸ bl_alloc (Below.refl _ _) _⟩
    · exact (testOf_2 n s u).mono fun e u' ⟨he, hu⟩ => ⟨_, [], he, ⟨⟨_, _, rfl⟩, fun j hj => (by cases hj)⟩, fun j hj => (by cases hj), hu ▸ bl_alloc (bl_alloc (Below.refl _ _) _) _⟩
    · exact (testOf_3 n s u).mono fun e u' ⟨he, hu⟩ => ⟨_, [], he, ⟨⟨_, _, rfl⟩, fun j hj => (by cases hj)⟩, fun j hj => (by cases hj), hu ▸ bl_alloc (bl_alloc (Below.refl _ _) _) _⟩
    · exact (testOf_4 n s u).mono fun e u' ⟨he, hu⟩ => ⟨_, [], he, ⟨⟨_, _, rfl⟩, fun j hj => (by cases hj)⟩, fun j hj => (by cases hj), hu ▸ bl_alloc (bl_alloc (Below.refl _ _) _) _⟩
    · exact (testOf_5 n s u).mono fun e u' ⟨he, hu⟩ => ⟨_, [], he, ⟨⟨_, _, rfl⟩, fun j hj => (by cases hj)⟩, fun j hj => (by cases hj), hu ▸ bl_alloc (bl_alloc (Below.refl _ _) _) _⟩
    · exact (testOf_6 n s u).mono fun e u' ⟨he, hu⟩ => ⟨_, [], he, ⟨⟨_, _, rfl⟩, fun j hj => (by cases hj)⟩, fun j hj => (by cases hj), hu ▸ bl_alloc (bl_alloc (Below.refl _ _) _) _⟩
    · exact (testOf_7 n s u).mono fun e u' ⟨he, hu⟩ => ⟨_, [], he, ⟨⟨_, _, rfl⟩, fun j hj => (by cases hj)⟩, fun j hj => (by cases hj), hu ▸ bl_alloc (bl_alloc (Below.refl _ _) _) _⟩
  nott := fun c h hc => ⟨⟨_, _, rfl⟩, fun j hj => by
    rcases List.mem_cons.1 hj with rfl | hj
    · exact (blk_cell hc).2.1
    · exact h.2 j hj⟩
  andd := fun c c' h h' hc hc' => ⟨⟨_, _, rfl⟩, fun j hj => by
    rcases List.mem_cons.1 hj with rfl | hj
    · exact (blk_cell hc).2.1
    · rcases List.mem_cons.1 hj with rfl | hj
      · exact (blk_cell hc').2.1
      · rcases List.mem_append.1 hj with hj | hj
        · exact h.2 j hj
        · exact h'.2 j hj⟩
  orr := fun c c' h h' hc hc' => ⟨⟨_, _, rfl⟩, fun j hj => by
    rcases List.mem_cons.1 hj with rfl | hj
    · exact (blk_cell hc).2.1
    · rcases List.mem_cons.1 hj with rfl | hj
      · exact (blk_cell hc').2.1
      · rcases List.mem_append.1 hj with hj | hj
        · exact h.2 j hj
        · exact h'.2 j hj⟩
theorem implFilterOk_any (a : Option Addr) (n cap : Nat) (ts : List Tm) (w : World) (hI : TmAt w a n ts) (hn : n ≤ 9223372036854775807) :
    Calls Tryz.prog 94 #[.slice a n cap] w fun e w' => e = .returned (.bool (okF ts)) ∧ Below w.heap.size w w' := by
  have HC := hidOf (compile_any anySys a n cap ts w hI hn)
  clear hI
  go_enter Tryz.func94, Tryz.ntmps94
  go_wp2_with fail
  refine (HC.out).mono ?_
  rintro e w1 ⟨x, rfl, _, hb⟩
  have HB := hidOf hb
  clear hb HC
  go_wp2
  go_ret
  exact ⟨rfl, HB.out⟩
end Go.Proofs.YtffpecdjfcgadaaGreatDoor
namespace Go.Proofs.YtffpecdjfcgadaaGreatDoor
open Go.RowKit Pl Il

theorem wrap_smallI {x : Int} (h0 : 0 ≤ x) (h1 : x ≤ 4000000000) : IntKind.i64.wrap x = x := by
  rw [IntKind.wrap_i64]; omega
set_option maxRecDepth 100000 in
set_option maxHeartbeats 4000000 in
theorem subOk_any (x : Sa) (se : Int) (w : World) (hF : TmAt w x.a x.n x.s.fl) (hn : x.n ≤ 2097152) (hse : 0 ≤ se ∧ se ≤ 1000000000) :
    Calls Tryz.prog 79 #[.agg #[.int .i64 x.s.id, .int .i64 x.s.st, .int .i64 x.s.cu, .int .i64 x.s.gt, .int .i64 x.s.lo, .int .i64 x.s.pa, .slice x.a x.n x.c], .int .i64 se] w fun e w' => e = .returned (.bool (subI se x.s)) ∧ Below w.heap.size w w' := by
  obtain ⟨W0, hW0⟩ : ∃ W, W = w.alloc (.cells #[.int .i64 x.s.id, .int .i64 x.s.st, .int .i64 x.s.cu, .int .i64 x.s.gt, .int .i64 x.s.lo, .int .i64 x.s.pa, .slice x.a x.n x.c] 90) := ⟨_, rfl⟩
  have b0 : Below w.heap.size w W0 := by rw [hW0]; exact bl_alloc (Below.refl _ _) _
  have X0 : BoxL w.heap.size (sC x) W0 := by rw [hW0]; exact BoxL.new w (sC x) _
  have p1 := X0.cs 1 (by simp)
  have p2 := X0.cs 2 (by simp)
  have p3 := X0.cs 3 (by simp)
  have p4 := X0.cs 4 (by simp)
  have p5 := X0.cs 5 (by simp)
  have p6 := X0.cs 6 (by simp)
  simp at p1 p2 p3 p4 p5 p6
  have HC := hidOf (implFilterOk_any x.a x.n x.c x.s.fl W0 (hF.keep b0) (by omega))
  have HB := hidOf b0
  have HE := hidOf (show subI se x.s = (decide (0 ≤ x.s.st ∧ x.s.st ≤ x.s.cu ∧ x.s.cu ≤ se) && (decide (0 ≤ x.s.gt ∧ x.s.gt ≤ x.s.cu - x.s.st) && (decide (0 ≤ x.s.lo ∧ x.s.lo ≤ x.s.cu - x.s.st) && (decide (0 ≤ x.s.pa ∧ x.s.pa ≤ x.s.cu - x.s.st) && (decide (x.s.gt + x.s.lo + x.s.pa = x.s.cu - x.s.st) && okF x.s.fl))))) from rfl)
  rw [HE.out]
  clear hF X0 b0 HE
  obtain ⟨⟨id, st, cu, gt, lo, pa, fl⟩, xa, xn, xc⟩ := x
  simp only at *
  by_cases h1 : 0 ≤ st
  case neg =>
    have hr : decide (0 ≤ st ∧ st ≤ cu ∧ cu ≤ se) = false := decide_eq_false (by omega)
    rw [hr]
    have h1' : st < 0 := by omega
    go_enter Tryz.func79, Tryz.ntmps79
    go_wp2
    go_ret
    exact ⟨rfl, by rw [← hW0]; exact HB.out⟩
  by_cases h2 : st ≤ cu
  case neg =>
    have hr : decide (0 ≤ st ∧ st ≤ cu ∧ cu ≤ se) = false := decide_eq_false (by omega)
    rw [hr]
    have h1' : ¬ st < 0 := by omega
    have h2' : cu < st := by omega
    go_enter Tryz.func79, Tryz.ntmps79
    go_wp2
    go_ret
    exact ⟨rfl, by rw [← hW0]; exact HB.out⟩
  by_cases h3 : cu ≤ se
  case neg =>
    have hr : decide (0 ≤ st ∧ st ≤ cu ∧ cu ≤ se) = false := decide_eq_false (by omega)
    rw [hr]
    have h1' : ¬ st < 0 := by omega
    have h2' : ¬ cu < st := by omega
    have h3' : se < cu := by omega
    go_enter Tryz.func79, Tryz.ntmps79
    go_wp2
    go_ret
    exact ⟨rfl, by rw [← hW0]; exact HB.out⟩
  have hr : decide (0 ≤ st ∧ st ≤ cu ∧ cu ≤ se) = true := decide_eq_true (by omega)
  rw [hr, Bool.true_and]
  have h1' : ¬ st < 0 := by omega
  have h2' : ¬ cu < st := by omega
  have h3' : ¬ se < cu := by omega
  have hm : IntKind.i64.wrap (cu - st) = cu - st := wrap_smallI (by omega) (by omega)
  obtain ⟨q, hq⟩ : ∃ q, (decide (0 ≤ gt ∧ gt ≤ cu - st) && (decide (0 ≤ lo ∧ lo ≤ cu - st) && (decide (0 ≤ pa ∧ pa ≤ cu - st) && (decide (gt + lo + pa = cu - st) && okF fl)))) = q := ⟨_, rfl⟩
  rw [hq]
  have HQ := hidOf hq
  have hix0 : ∀ u : World, (Instr.index 148 (.agg #[.int .i64 gt, .int .i64 lo, .int .i64 pa]) (.int .i64 0)).run Tryz.prog u = .ok (.int .i64 gt) u := fun u => by kernel_rfl
  have hix1 : ∀ u : World, (Instr.index 148 (.agg #[.int .i64 gt, .int .i64 lo, .int .i64 pa]) (.int .i64 1)).run Tryz.prog u = .ok (.int .i64 lo) u := fun u => by kernel_rfl
  have hix2 : ∀ u : World, (Instr.index 148 (.agg #[.int .i64 gt, .int .i64 lo, .int .i64 pa]) (.int .i64 2)).run Tryz.prog u = .ok (.int .i64 pa) u := fun u => by kernel_rfl
  clear hq hr
  go_enter Tryz.func79, Tryz.ntmps79
  go_wp2_with fail
  rw [← hW0]
  clear hW0
  go_loop [36] (fun i => ∃ k : Nat, k ≤ 3 ∧ i = .int .i64 k ∧ Hid ((0 < k → 0 ≤ gt ∧ gt ≤ cu - st) ∧ (1 < k → 0 ≤ lo ∧ lo ≤ cu - st) ∧ (2 < k → 0 ≤ pa ∧ pa ≤ cu - st))) (fun i => 3 - (intOf i).toNat)
  case atStart => exact ⟨0, by omega, rfl, hidOf ⟨by omega, by omega, by omega⟩⟩
  case round =>
    obtain ⟨k, hk, rfl, hto⟩ := hrel
    rcases (show k = 0 ∨ k = 1 ∨ k = 2 ∨ k = 3 by omega) with rfl | rfl | rfl | rfl
    · by_cases ha : gt < 0
      · have HV := hidOf (show q = false by rw [← HQ.out]; simp only [Bool.and_eq_false_iff, decide_eq_false_iff_not]; omega)
        go_wp2
        go_ret
        rw [HV.out]
        exact ⟨rfl, HB.out⟩
      by_cases hb : cu - st < gt
      · have HV := hidOf (show q = false by rw [← HQ.out]; simp only [Bool.and_eq_false_iff, decide_eq_false_iff_not]; omega)
        go_wp2
        go_ret
        rw [HV.out]
        exact ⟨rfl, HB.out⟩
      have HH := hidOf (And.intro ha hb)
      go_wp2
      go_round
      case rel => exact ⟨1, by omega, by go_num, hidOf ⟨fun _ => (by have := hto.out; have := HH.out; omega), fun _ => (by have := hto.out; have := HH.out; omega), fun _ => (by have := hto.out; have := HH.out; omega)⟩⟩
      case measure => simp [intOf]
    · by_cases ha : lo < 0
      · have HV := hidOf (show q = false by rw [← HQ.out]; simp only [Bool.and_eq_false_iff, decide_eq_false_iff_not]; omega)
        go_wp2
        go_ret
        rw [HV.out]
        exact ⟨rfl, HB.out⟩
      by_cases hb : cu - st < lo
      · have HV := hidOf (show q = false by rw [← HQ.out]; simp only [Bool.and_eq_false_iff, decide_eq_false_iff_not]; omega)
        go_wp2
        go_ret
        rw [HV.out]
        exact ⟨rfl, HB.out⟩
      have HH := hidOf (And.intro ha hb)
      go_wp2
      go_round
      case rel => exact ⟨2, by omega, by go_num, hidOf ⟨fun _ => (by have := hto.out; have := HH.out; omega), fun _ => (by have := hto.out; have := HH.out; omega), fun _ => (by have := hto.out; have := HH.out; omega)⟩⟩
      case measure => simp [intOf]
    · by_cases ha : pa < 0
      · have HV := hidOf (show q = false by rw [← HQ.out]; simp only [Bool.and_eq_false_iff, decide_eq_false_iff_not]; omega)
        go_wp2
        go_ret
        rw [HV.out]
        exact ⟨rfl, HB.out⟩
      by_cases hb : cu - st < pa
      · have HV := hidOf (show q = false by rw [← HQ.out]; simp only [Bool.and_eq_false_iff, decide_eq_false_iff_not]; omega)
        go_wp2
        go_ret
        rw [HV.out]
        exact ⟨rfl, HB.out⟩
      have HH := hidOf (And.intro ha hb)
      go_wp2
      go_round
      case rel => exact ⟨3, by omega, by go_num, hidOf ⟨fun _ => (by have := hto.out; have := HH.out; omega), fun _ => (by have := hto.out; have := HH.out; omega), fun _ => (by have := hto.out; have := HH.out; omega)⟩⟩
      case measure => simp [intOf]
    · have hw1 : IntKind.i64.wrap (gt + lo) = gt + lo := by have := hto.out; exact wrap_smallI (by omega) (by omega)
      have hw2 : IntKind.i64.wrap (gt + lo + pa) = gt + lo + pa := by have := hto.out; exact wrap_smallI (by omega) (by omega)
      have HV := hidOf (show q = (decide (gt + lo + pa = cu - st) && okF fl) by
        have := hto.out
        rw [← HQ.out, decide_eq_true (show 0 ≤ gt ∧ gt ≤ cu - st by omega), decide_eq_true (show 0 ≤ lo ∧ lo ≤ cu - st by omega), decide_eq_true (show 0 ≤ pa ∧ pa ≤ cu - st by omega)]
        rfl)
      by_cases hs : gt + lo + pa = cu - st
      · have hsd : (gt + lo + pa == cu - st) = true := by simp [hs]
        rw [hs] at hw2
        have HS := hidOf (decide_eq_true hs)
        clear hto
        go_wp2_with fail
        refine (HC.out).mono ?_
        rintro e w1 ⟨rfl, hb1⟩
        have hB1 := bl_trans HB.out hb1
        go_wp2
        go_ret
        rw [HV.out, HS.out]
        exact ⟨rfl, hB1⟩
      · have hsd : (gt + lo + pa == cu - st) = false := by simp [hs]
        have HS := hidOf (decide_eq_false hs)
        clear hs hto
        go_wp2
        go_ret
        rw [HV.out, HS.out]
        exact ⟨rfl, HB.out⟩
end Go.Proofs.YtffpecdjfcgadaaGreatDoor
namespace Go.Proofs.YtffpecdjfcgadaaGreatDoor
open Go.RowKit Pl Il

set_option maxRecDepth 100000 in
set_option maxHeartbeats 4000000 in
theorem oldestOf_any (M : Rm) (v : Rv) (w : World) (hI : SubAt w M.sa M.s M.xs) (hv : svs M.xs = v.sb) (hn : M.s ≤ 2097152) (hse : 0 ≤ v.se ∧ v.se ≤ 1000000000) (hcp : 1 ≤ v.cp ∧ v.cp ≤ 16) :
    Calls Tryz.prog 80 #[.int .i64 v.cp, .int .i64 v.se, .slice M.sa M.s M.sc] w fun e w' => e = .returned (.int .i64 (oldR v)) ∧ Below w.heap.size w w' := by
  have hl := hI.len
  have HR := hidOf hI
  have HV := hidOf hv
  have HL := hidOf hl
  have HSe := hidOf hse
  have HCp := hidOf hcp
  clear hI hl hse hcp hv
  go_enter Tryz.func80, Tryz.ntmps80
  go_wp2_with fail
  go_loopw [7, 13] (fun m i wr => ∃ k : Nat, k ≤ M.s ∧ i = .int .i64 k ∧ m = .int .i64 (leastR v.se (v.sb.take k)) ∧ Below w.heap.size w wr) (fun _ i _ => M.s - (intOf i).toNat)
  case atStart => exact ⟨0, Nat.zero_le _, rfl, rfl, Below.refl _ _⟩
  case round =>
    rename World => wr
    obtain ⟨k, hk, rfl, rfl, hB⟩ := hrel
    by_cases hlt : k < M.s
    · obtain hr | ⟨b, off, ea, hb, hcell⟩ := (HR.out.keep hB).row
      · omega
      obtain ⟨c0, c1, c2, c3, c4, c5, c6⟩ := hcell k hlt
      have hk1 : k < M.xs.length := by rw [HL.out]; exact hlt
      have HT := hidOf (show leastR v.se (v.sb.take (k + 1)) = (if (sg M.xs k).s.cu < leastR v.se (v.sb.take k) then (sg M.xs k).s.cu else leastR v.se (v.sb.take k)) by
        have hk2 : k < v.sb.length := by rw [← HV.out]; simpa [svs] using hk1
        rw [List.take_succ_eq_append_getElem hk2, leastR_snoc]
        have e2 := sg_svs hk1
        simp only [HV.out] at e2
        rw [e2])
      obtain ⟨x, hx⟩ : ∃ x, sg M.xs k = x := ⟨_, rfl⟩
      rw [hx] at c0 c1 c2 c3 c4 c5 c6 HT
      obtain ⟨l, hl⟩ : ∃ l, leastR v.se (v.sb.take k) = l := ⟨_, rfl⟩
      rw [hl] at HT ⊢
      have hB2 := hidOf hB
      rw [ea]
      clear hx hl hcell hB ea hk1
      go_wp2_with fail
      refine ⟨⟨k + 1, by omega, by go_num, by rw [HT.out], bl_alloc hB2.out _⟩, ?_⟩
      simp [intOf]
      omega
    · have HK := hidOf (show leastR v.se (v.sb.take k) = leastR v.se v.sb by
        rw [List.take_of_length_le]
        have h1 := HL.out
        have h2 := congrArg List.length HV.out
        simp [svs] at h2
        omega)
      have hw : IntKind.i64.wrap (v.se - v.cp) = v.se - v.cp := by
        have := HSe.out
        have := HCp.out
        rw [IntKind.wrap_i64]
        omega
      have HBB := hidOf hB
      rw [HK.out]
      clear hB
      go_wp2
      all_goals go_ret
      all_goals refine ⟨?_, HBB.out⟩
      all_goals refine congrArg (fun z => Ending.returned (.int .i64 z)) ?_
      all_goals unfold oldR
      all_goals simp only
      all_goals (repeat' split) <;> omega
/-- Has it that number? -/
theorem placeFn_any (x : Sa) (id : Int) (N : Nat) (w : World) (hN : w.cell? ⟨N, 0, none⟩ = some (.int .i64 id)) :
    Calls Tryz.prog 84 #[.agg #[.int .i64 x.s.id, .int .i64 x.s.st, .int .i64 x.s.cu, .int .i64 x.s.gt, .int .i64 x.s.lo, .int .i64 x.s.pa, .slice x.a x.n x.c], .pointer (some ⟨N, 0, none⟩)] w fun e w' => e = .returned (.bool (x.s.id == id)) ∧ Below w.heap.size w w' := by
  have hB : Below w.heap.size w (w.alloc (.cells #[.int .i64 x.s.id, .int .i64 x.s.st, .int .i64 x.s.cu, .int .i64 x.s.gt, .int .i64 x.s.lo, .int .i64 x.s.pa, .slice x.a x.n x.c] 90)) := bl_alloc (Below.refl _ _) _
  have hN2 : ∀ o, (w.alloc o).cell? ⟨N, 0, none⟩ = some (.int .i64 id) := fun o => by rw [World.cell?_alloc_old _ _ _ (Nat.ne_of_lt (World.block_lt_of_cell? w _ hN))]; exact hN
  go_enter Tryz.func84, Tryz.ntmps84
  go_wp2
  go_ret
  exact ⟨rfl, hB⟩
set_option maxRecDepth 100000 in
set_option maxHeartbeats 4000000 in
theorem idxSub_any (a : Option Addr) (n cap : Nat) (xs : List Sa) (id : Int) (N : Nat) (w : World) (hI : SubAt w a n xs) (hn : n ≤ 2097152) (hN : w.cell? ⟨N, 0, none⟩ = some (.int .i64 id)) :
    Calls Tryz.prog 83 #[.slice a n cap, .func (.func 84) #[] #[.pointer (some ⟨N, 0, none⟩)]] w fun e w' => e = .returned (.int .i64 (atR (svs xs) id)) ∧ Below w.heap.size w w' := by
  have HL := hidOf hI.len
  have HI := hidOf hI
  have HNn := hidOf hn
  clear hI
  go_enter Tryz.func83, Tryz.ntmps83
  go_wp2_with fail
  go_loopw [8] (fun i wr => ∃ (k : Nat), k ≤ n ∧ i = .int .i64 k ∧ (∀ j, j < k → ¬ (sg xs j).s.id = id) ∧ Below w.heap.size w wr) (fun i _ => n - (intOf i).toNat)
  case atStart => exact ⟨0, Nat.zero_le _, rfl, fun j hj => (by omega), Below.refl _ _⟩
  case round =>
    rename World => wr
    obtain ⟨k, hk, rfl, hall, hB⟩ := hrel
    have HA := hidOf hall
    have HB := hidOf hB
    clear hall
    by_cases hlt : k < n
    · have hki : (0 : Int) ≤ (k : Int) ∧ (k : Int) < (n : Int) := by omega
      have hkl : k < xs.length := by rw [HL.out]; exact hlt
      obtain hr | ⟨b, off, rfl, hb, hcell⟩ := (HI.out.keep hB).row
      · omega
      obtain ⟨c0, c1, c2, c3, c4, c5, c6⟩ := hcell k hlt
      have hNr : wr.cell? ⟨N, 0, none⟩ = some (.int .i64 id) := by rw [hB.cell (p := ⟨N, 0, none⟩) (World.block_lt_of_cell? w _ hN)]; exact hN
      have HC := hidOf (placeFn_any (sg xs k) id N wr hNr)
      obtain ⟨y, hy⟩ : ∃ y, sg xs k = y := ⟨_, rfl⟩
      rw [hy] at c0 c1 c2 c3 c4 c5 c6 HC
      have HY := hidOf hy
      clear hy hB hNr hcell
      go_wp2_with fail
      refine (HC.out).mono ?_
      rintro e w1 ⟨rfl, hb1⟩
      have HB1 := hidOf (bl_trans HB.out hb1)
      clear hb1 HC HB
      cases ht : (y.s.id == id)
      · go_wp2
        go_roundw
        case rel =>
          refine ⟨k + 1, by omega, by go_num, fun j hj => ?_, HB1.out⟩
          by_cases e : j = k
          · rw [e, HY.out]; simpa using ht
          · exact HA.out j (by omega)
        case measure => simp [intOf]; omega
      · have HT := hidOf ht
        clear ht
        go_wp2
        go_ret
        refine ⟨congrArg (fun z => Ending.returned (.int .i64 z)) ?_, HB1.out⟩
        symm
        refine atR_at (k := k) (by simpa [svs] using hkl) (fun j hj => ?_) ?_
        · rw [sg_svs (by omega)]
          exact HA.out j hj
        · rw [sg_svs hkl, HY.out]
          simpa using HT.out
    · have hki : ¬ (k : Int) < (n : Int) := by omega
      clear hB
      go_wp2
      go_ret
      refine ⟨congrArg (fun z => Ending.returned (.int .i64 z)) ?_, HB.out⟩
      symm
      refine atR_none (fun j hj => ?_)
      have hj1 : j < xs.length := by simpa [svs] using hj
      rw [sg_svs hj1]
      exact HA.out j (by have := HL.out; omega)
theorem placeOfSub_any (a : Option Addr) (n cap : Nat) (xs : List Sa) (id : Int) (w : World) (hI : SubAt w a n xs) (hn : n ≤ 2097152) :
    Calls Tryz.prog 63 #[.slice a n cap, .int .i64 id] w fun e w' => e = .returned (.int .i64 (atR (svs xs) id)) ∧ Below w.heap.size w w' := by
  have hB : Below w.heap.size w (w.alloc (.cells #[.int .i64 id] 3)) := bl_alloc (Below.refl _ _) _
  have HC := hidOf (idxSub_any a n cap xs id w.heap.size (w.alloc (.cells #[.int .i64 id] 3)) (hI.keep hB) hn (by simp [World.cell?_alloc_new]))
  clear hI
  go_enter Tryz.func63, Tryz.ntmps63
  go_wp2_with fail
  refine (HC.out).mono ?_
  rintro e w1 ⟨rfl, hb1⟩
  have HB1 := hidOf (bl_trans hB hb1)
  clear hb1 HC hB
  go_wp2
  go_ret
  exact ⟨rfl, HB1.out⟩
end Go.Proofs.YtffpecdjfcgadaaGreatDoor
namespace Go.Proofs.YtffpecdjfcgadaaGreatDoor
open Go.RowKit Pl

theorem meth_msg_num (n : Int) (w : World) : (method 315 166 (.int .i64 n) "loop.example/g00098/impl.msg").run Tryz.prog w = .ok (162, .int .i64 n) w := by kernel_rfl
theorem meth_right_num (n : Int) (w : World) : (method 315 166 (.int .i64 n) "loop.example/g00098/impl.right").run Tryz.prog w = .ok (163, .int .i64 n) w := by kernel_rfl
theorem meth_msg_text (s : ByteArray) (w : World) : (method 315 167 (.string s) "loop.example/g00098/impl.msg").run Tryz.prog w = .ok (165, .string s) w := by kernel_rfl
theorem meth_right_text (s : ByteArray) (w : World) : (method 315 167 (.string s) "loop.example/g00098/impl.right").run Tryz.prog w = .ok (166, .string s) w := by kernel_rfl

def yes (t : TypeId) (v : Value) : Ending := .returned (.tuple #[.iface t v, .bool true])
def no : Ending := .returned (.tuple #[.nilIface, .bool false])

theorem body_num_yes (n : Int) (s : ByteArray) (w : World) (hs : s.toList = []) (hn : okNum n = true) :
    Calls Tryz.prog 95 #[.agg #[.int .i64 1, .int .i64 n, .string s]] w fun e w' => e = yes 166 (.int .i64 n) ∧ Below w.heap.size w w' := by
  have m1 := meth_msg_num n
  have m2 := meth_right_num n
  go_enter Tryz.func95, Tryz.ntmps95
  go_wp2_with fail
  first | (go_region_with (first | (go_at_call 162; refine (msg_num _ _).mono ?_; rintro e w' ⟨rfl, rfl⟩) | (go_at_call 163; refine (right_num _ _).mono ?_; rintro e w' ⟨rfl, rfl⟩))) | fail
  all_goals
    go_wp2
    go_ret2
    exact ⟨rfl, by repeat (first | exact Below.refl _ _ | apply Below.drew | apply bl_alloc)⟩

theorem body_num_no (n : Int) (s : ByteArray) (w : World) (hs : s.toList = []) (hn : okNum n = false) :
    Calls Tryz.prog 95 #[.agg #[.int .i64 1, .int .i64 n, .string s]] w fun e w' => e = no ∧ Below w.heap.size w w' := by
  have m1 := meth_msg_num n
  have m2 := meth_right_num n
  go_enter Tryz.func95, Tryz.ntmps95
  go_wp2_with fail
  first | (go_region_with (first | (go_at_call 162; refine (msg_num _ _).mono ?_; rintro e w' ⟨rfl, rfl⟩) | (go_at_call 163; refine (right_num _ _).mono ?_; rintro e w' ⟨rfl, rfl⟩))) | fail
  all_goals
    go_wp2
    go_ret2
    exact ⟨rfl, by repeat (first | exact Below.refl _ _ | apply Below.drew | apply bl_alloc)⟩

theorem body_num_not (n : Int) (s : ByteArray) (w : World) (hs : ¬ s.toList = []) :
    Calls Tryz.prog 95 #[.agg #[.int .i64 1, .int .i64 n, .string s]] w fun e w' => e = no ∧ Below w.heap.size w w' := by
  have m1 := meth_msg_num n
  have m2 := meth_right_num n
  go_enter Tryz.func95, Tryz.ntmps95
  go_wp2_with fail
  first | (go_region_with (first | (go_at_call 162; refine (msg_num _ _).mono ?_; rintro e w' ⟨rfl, rfl⟩) | (go_at_call 163; refine (right_num _ _).mono ?_; rintro e w' ⟨rfl, rfl⟩))) | fail
  all_goals
    go_wp2
    go_ret2
    exact ⟨rfl, by repeat (first | exact Below.refl _ _ | apply Below.drew | apply bl_alloc)⟩
end Go.Proofs.YtffpecdjfcgadaaGreatDoor
namespace Go.Proofs.YtffpecdjfcgadaaGreatDoor
open Go.RowKit Pl

theorem body_text_yes (s : ByteArray) (w : World) (hm : s.size ≤ maxLen) (hn : plainB s = true) :
    Calls Tryz.prog 95 #[.agg #[.int .i64 2, .int .i64 0, .string s]] w fun e w' => e = yes 167 (.string s) ∧ Below w.heap.size w w' := by
  have m1 := meth_msg_text s
  have m2 := meth_right_text s
  go_enter Tryz.func95, Tryz.ntmps95
  go_wp2_with fail
  first | (go_region_with (first | (go_at_call 165; refine (msg_text _ _).mono ?_; rintro e w' ⟨rfl, rfl⟩) | (go_at_call 166; refine (right_text _ _ hm).mono ?_; rintro e w' ⟨rfl, rfl⟩))) | fail
  all_goals
    go_wp2
    go_ret2
    exact ⟨rfl, by repeat (first | exact Below.refl _ _ | apply Below.drew | apply bl_alloc)⟩

theorem body_text_no (s : ByteArray) (w : World) (hm : s.size ≤ maxLen) (hn : plainB s = false) :
    Calls Tryz.prog 95 #[.agg #[.int .i64 2, .int .i64 0, .string s]] w fun e w' => e = no ∧ Below w.heap.size w w' := by
  have m1 := meth_msg_text s
  have m2 := meth_right_text s
  go_enter Tryz.func95, Tryz.ntmps95
  go_wp2_with fail
  first | (go_region_with (first | (go_at_call 165; refine (msg_text _ _).mono ?_; rintro e w' ⟨rfl, rfl⟩) | (go_at_call 166; refine (right_text _ _ hm).mono ?_; rintro e w' ⟨rfl, rfl⟩))) | fail
  all_goals
    go_wp2
    go_ret2
    exact ⟨rfl, by repeat (first | exact Below.refl _ _ | apply Below.drew | apply bl_alloc)⟩

theorem body_text_not (n : Int) (s : ByteArray) (w : World) (hn : ¬ n = 0) :
    Calls Tryz.prog 95 #[.agg #[.int .i64 2, .int .i64 n, .string s]] w fun e w' => e = no ∧ Below w.heap.size w w' := by
  have m1 := meth_msg_text s
  have m2 := meth_right_text s
  have hb : ((0 : Int) == n) = false := by simp; omega
  go_enter Tryz.func95, Tryz.ntmps95
  go_wp2_with fail
  first | (go_region_with (first | (go_at_call 165; refine (msg_text _ _).mono ?_; rintro e w' ⟨rfl, rfl⟩))) | fail
  all_goals
    go_wp2
    go_ret2
    exact ⟨rfl, by repeat (first | exact Below.refl _ _ | apply Below.drew | apply bl_alloc)⟩

theorem body_none (k n : Int) (s : ByteArray) (w : World) (h1 : (k == 1) = false) (h2 : (k == 2) = false) :
    Calls Tryz.prog 95 #[.agg #[.int .i64 k, .int .i64 n, .string s]] w fun e w' => e = no ∧ Below w.heap.size w w' := by
  go_enter Tryz.func95, Tryz.ntmps95
  go_wp2
  go_ret2
  exact ⟨rfl, bl_alloc (Below.refl _ _) _⟩
end Go.Proofs.YtffpecdjfcgadaaGreatDoor
namespace Go.Proofs.YtffpecdjfcgadaaGreatDoor
open Go.RowKit Pl

def tyOf (k : Int) : TypeId := if k = 1 then 166 else 167
def valOf (k n : Int) (s : ByteArray) : Value := if k = 1 then .int .i64 n else .string s

theorem body_any (k n : Int) (s : ByteArray) (w : World) (hm : s.size ≤ maxLen) :
    Calls Tryz.prog 95 #[.agg #[.int .i64 k, .int .i64 n, .string s]] w fun e w' =>
      (okB k n s = true ∧ e = yes (tyOf k) (valOf k n s) ∨ okB k n s = false ∧ e = no) ∧ Below w.heap.size w w' := by
  by_cases h1 : k = 1
  · subst h1
    by_cases hs : s.toList = []
    · cases ho : okNum n
      · exact (body_num_no n s w hs ho).mono fun e w' ⟨he, hb⟩ => ⟨.inr ⟨by simp [okB, hs, ho], he⟩, hb⟩
      · exact (body_num_yes n s w hs ho).mono fun e w' ⟨he, hb⟩ => ⟨.inl ⟨by simp [okB, hs, ho], he⟩, hb⟩
    · exact (body_num_not n s w hs).mono fun e w' ⟨he, hb⟩ => ⟨.inr ⟨by simp [okB, hs], he⟩, hb⟩
  · by_cases h2 : k = 2
    · subst h2
      by_cases hn : n = 0
      · subst hn
        cases ho : plainB s
        · exact (body_text_no s w hm ho).mono fun e w' ⟨he, hb⟩ => ⟨.inr ⟨by simp [okB, ho], he⟩, hb⟩
        · exact (body_text_yes s w hm ho).mono fun e w' ⟨he, hb⟩ => ⟨.inl ⟨by simp [okB, ho], he⟩, hb⟩
      · exact (body_text_not n s w hn).mono fun e w' ⟨he, hb⟩ => ⟨.inr ⟨by simp [okB, hn], he⟩, hb⟩
    · exact (body_none k n s w (by simp [h1]) (by simp [h2])).mono fun e w' ⟨he, hb⟩ => ⟨.inr ⟨by simp [okB, h1, h2], he⟩, hb⟩

theorem implMsgOk_any (k n : Int) (s : ByteArray) (w : World) (hm : s.size ≤ maxLen) :
    Calls Tryz.prog 81 #[.agg #[.int .i64 k, .int .i64 n, .string s]] w fun e w' => e = .returned (.bool (okB k n s)) ∧ Below w.heap.size w w' := by
  go_enter Tryz.func81, Tryz.ntmps81
  go_wp2_with fail
  refine (body_any k n s _ hm).mono ?_
  rintro e w' ⟨⟨ho, rfl⟩ | ⟨ho, rfl⟩, hb⟩
  · unfold yes
    have hb' := bl_trans (bl_alloc (Below.refl _ _) _) hb
    go_wp2
    go_ret
    exact ⟨ret_bool ho.symm, hb'⟩
  · unfold no
    have hb' := bl_trans (bl_alloc (Below.refl _ _) _) hb
    go_wp2
    go_ret
    exact ⟨ret_bool ho.symm, hb'⟩

theorem szMsg_no (k n l : Int) (s : ByteArray) (w : World) (hm : s.size ≤ maxLen) (_h0 : 0 ≤ l) (_h1 : l ≤ 1048576) (hl : l < s.size) :
    Calls Tryz.prog 69 #[.agg #[.int .i64 k, .int .i64 n, .string s], .int .i64 l] w fun e w' => e = .returned (.int .i64 (-1)) ∧ Below w.heap.size w w' := by
  unfold maxLen at hm
  go_enter Tryz.func69, Tryz.ntmps69
  go_wp2
  all_goals go_ret
  exact ⟨rfl, bl_alloc (Below.refl _ _) _⟩
theorem szMsg_yes (k n l : Int) (s : ByteArray) (w : World) (hm : s.size ≤ maxLen) (_h0 : 0 ≤ l) (_h1 : l ≤ 1048576) (hl : (s.size : Int) ≤ l) :
    Calls Tryz.prog 69 #[.agg #[.int .i64 k, .int .i64 n, .string s], .int .i64 l] w fun e w' => e = .returned (.int .i64 (l - s.size)) ∧ Below w.heap.size w w' := by
  unfold maxLen at hm
  go_enter Tryz.func69, Tryz.ntmps69
  go_wp2
  all_goals go_ret
  exact ⟨rfl, bl_alloc (Below.refl _ _) _⟩
theorem szMsg_any (k n l : Int) (s : ByteArray) (w : World) (hm : s.size ≤ maxLen) (h0 : 0 ≤ l) (h1 : l ≤ 1048576) :
    Calls Tryz.prog 69 #[.agg #[.int .i64 k, .int .i64 n, .string s], .int .i64 l] w fun e w' =>
      ((l < s.size ∧ e = .returned (.int .i64 (-1))) ∨ ((s.size : Int) ≤ l ∧ e = .returned (.int .i64 (l - s.size)))) ∧ Below w.heap.size w w' := by
  by_cases hl : l < s.size
  · exact (szMsg_no k n l s w hm h0 h1 hl).mono fun e w' ⟨he, hb⟩ => ⟨.inl ⟨hl, he⟩, hb⟩
  · exact (szMsg_yes k n l s w hm h0 h1 (by omega)).mono fun e w' ⟨he, hb⟩ => ⟨.inr ⟨by omega, he⟩, hb⟩

theorem toMsg_any (k n : Int) (s : ByteArray) (w : World) :
    Calls Tryz.prog 75 #[.agg #[.int .i64 k, .int .i64 n, .string s]] w fun e w' => e = .returned (.agg #[.int .i64 k, .int .i64 n, .string s]) ∧ Below w.heap.size w w' := by
  go_enter Tryz.func75, Tryz.ntmps75
  go_wp2
  refine bodyPost_ret (v := .agg #[.int .i64 k, .int .i64 n, .string s]) (by simp [results, Tryz.results75, go_sem]) rfl ⟨rfl, ?_⟩
  repeat (first | exact Below.refl _ _ | apply Below.drew | apply bl_alloc)
end Go.Proofs.YtffpecdjfcgadaaGreatDoor
namespace Go.Proofs.YtffpecdjfcgadaaGreatDoor
open Go.RowKit Pl Il

theorem least_succ (sb : List Sb) (k : Nat) : leastAt sb (k + 1) = (sb.getD k ⟨0, 0, 0, 0, 0, 0, []⟩).id + 1 := by simp [leastAt]
set_option maxRecDepth 100000 in
set_option maxHeartbeats 4000000 in
theorem subsOk_any (M : Rm) (v : Rv) (w : World) (hI : RIn w M v) (hm : RLe M 2097152) (hse : 0 ≤ v.se ∧ v.se ≤ 1000000000) (hnx : 0 ≤ v.nx ∧ v.nx ≤ 1000000000) :
    Calls Tryz.prog 58 #[.agg #[.int .i64 v.cp, .int .i64 v.se, .slice M.ia M.i M.ic, .int .i64 v.nx, .slice M.sa M.s M.sc, .slice M.la M.l M.lc, .slice M.ga M.g M.gc, .bool v.cl]] w fun e w' => e = .returned (.bool (subsI v)) ∧ Below w.heap.size w w' := by
  obtain ⟨W0, hW0⟩ : ∃ W, W = w.alloc (.cells #[.int .i64 v.cp, .int .i64 v.se, .slice M.ia M.i M.ic, .int .i64 v.nx, .slice M.sa M.s M.sc, .slice M.la M.l M.lc, .slice M.ga M.g M.gc, .bool v.cl] 53) := ⟨_, rfl⟩
  have hX : RHold w M v W0 := by
    have b0 : Below w.heap.size w W0 := by rw [hW0]; exact bl_alloc (Below.refl _ _) _
    exact ⟨by rw [hW0]; exact BoxL.new w (rC M v) _, hI.keep b0, b0⟩
  have hsl : v.sb.length = M.s := by
    have h1 := hI.sb.len
    have h2 := congrArg List.length hI.sv
    simp [svs] at h2
    omega
  have HX := hidOf hX
  have HM := hidOf hm
  have HSl := hidOf hsl
  have HSe := hidOf hse
  have HNx := hidOf hnx
  have p4 := hX.box.cs 4 (by simp)
  simp at p4
  have hS := hm.s
  clear hI hm hX hse hnx
  by_cases h12 : (12 : Int) < (M.s : Int)
  · have HV := hidOf (show subsI v = false by unfold subsI; rw [decide_eq_false (by omega)]; rfl)
    clear hsl
    rw [HV.out]
    go_enter Tryz.func58, Tryz.ntmps58
    go_wp2
    go_ret
    exact ⟨rfl, by rw [← hW0]; exact HX.out.below⟩
  have HV := hidOf (show subsI v = subsITo v v.sb.length by unfold subsI; rw [decide_eq_true (by omega)]; rfl)
  clear hsl
  rw [HV.out]
  go_enter Tryz.func58, Tryz.ntmps58
  go_wp2_with fail
  rw [← hW0]
  clear hW0 p4
  go_loopw [3, 13] (fun l i wr => ∃ k : Nat, k ≤ M.s ∧ i = .int .i64 k ∧ l = .int .i64 (leastAt v.sb k) ∧ subsITo v k = true ∧ RHold w M v wr) (fun _ i _ => M.s - (intOf i).toNat)
  case atStart => exact ⟨0, Nat.zero_le _, rfl, rfl, rfl, HX.out⟩
  case round =>
    rename World => wr
    obtain ⟨k, hk, rfl, rfl, hst, hX⟩ := hrel
    clear HX
    have HSt := hidOf hst
    clear hst
    by_cases hlt : k < M.s
    · have hkl : k < M.xs.length := by rw [hX.rin.sb.len]; exact hlt
      obtain hr | ⟨b, off, ea, hb, hcell⟩ := hX.rin.sb.row
      · omega
      obtain ⟨c0, c1, c2, c3, c4, c5, c6⟩ := hcell k hlt
      have hsg := sb_get hX.rin.sv hkl
      have hmem := sg_mem hkl
      have HAt := hidOf (show subsIAt v k = (decide (leastAt v.sb k ≤ (v.sb.getD k ⟨0, 0, 0, 0, 0, 0, []⟩).id ∧ (v.sb.getD k ⟨0, 0, 0, 0, 0, 0, []⟩).id < v.nx) && subI v.se (v.sb.getD k ⟨0, 0, 0, 0, 0, 0, []⟩)) from rfl)
      have HBad := hidOf (fun (h : subsIAt v k = false) => show subsITo v v.sb.length = false from subsITo_bad h (by have := HSl.out; omega))
      have HNext := hidOf (least_succ v.sb k)
      have HC := hidOf (fun (u : World) (hu : RHold w M v u) => subOk_any (sg M.xs k) v.se u (hu.rin.sb.fil _ hmem) (HM.out.f _ hmem) HSe.out)
      have hL0 : 0 ≤ leastAt v.sb k := by
        rcases Nat.eq_zero_or_pos k with h | h
        · subst h; simp [leastAt]
        · obtain ⟨j, rfl⟩ : ∃ j, k = j + 1 := ⟨k - 1, by omega⟩
          have h2 := HSt.out
          rw [subsI_eq, subsTo_succ] at h2
          simp only [Bool.and_eq_true, subR, subHead, decide_eq_true_eq] at h2
          have := h2.2.1.1.1.1.1.1.1.1.1
          rw [least_succ]
          simp only [List.getD_eq_getElem?_getD] at *
          omega
      rw [hsg] at HAt HNext
      obtain ⟨x, hx⟩ : ∃ x, sg M.xs k = x := ⟨_, rfl⟩
      rw [hx] at c0 c1 c2 c3 c4 c5 c6 HAt HNext HC
      obtain ⟨l, hl⟩ : ∃ l, leastAt v.sb k = l := ⟨_, rfl⟩
      rw [hl] at HAt hL0 ⊢
      have HL0 := hidOf hL0
      have p1 : ∀ o, (wr.alloc o).cell? ⟨w.heap.size, 1, none⟩ = some (.int .i64 v.se) := fun o => (hX.box.alloc o).cs 1 (by simp)
      have p3 : ∀ o, (wr.alloc o).cell? ⟨w.heap.size, 3, none⟩ = some (.int .i64 v.nx) := fun o => (hX.box.alloc o).cs 3 (by simp)
      rw [ea]
      have HX1 := hidOf (fun (o : Obj) => hX.keep (bl_alloc (Below.refl _ _) o))
      clear hx hl hcell ea hkl hsg hmem hb hX hL0
      by_cases ha : x.s.id < l
      · have HQ := hidOf (HBad.out (by rw [HAt.out, decide_eq_false (by omega)]; rfl))
        clear HNext HC
        go_wp2
        go_ret
        rw [HQ.out]
        exact ⟨rfl, (HX1.out _).below⟩
      by_cases hb : v.nx ≤ x.s.id
      · have HQ := hidOf (HBad.out (by rw [HAt.out, decide_eq_false (by omega)]; rfl))
        clear HNext HC
        go_wp2
        go_ret
        rw [HQ.out]
        exact ⟨rfl, (HX1.out _).below⟩
      have hd : decide (l ≤ x.s.id ∧ x.s.id < v.nx) = true := decide_eq_true (by omega)
      have hw : IntKind.i64.wrap (x.s.id + 1) = x.s.id + 1 := by
        have := HNx.out
        have := HL0.out
        rw [IntKind.wrap_i64]
        omega
      rw [hd] at HAt
      obtain ⟨W1, hW1⟩ : ∃ W, W = wr.alloc (.cells #[.int .i64 x.s.id, .int .i64 x.s.st, .int .i64 x.s.cu, .int .i64 x.s.gt, .int .i64 x.s.lo, .int .i64 x.s.pa, .slice x.a x.n x.c] 90) := ⟨_, rfl⟩
      have Y1 : BoxL wr.heap.size (sC x) W1 := by rw [hW1]; exact BoxL.new wr (sC x) _
      have HX2 := hidOf (show RHold w M v W1 by rw [hW1]; exact HX1.out _)
      clear HX1 hd
      go_wp2_with fail
      rw [← hW1]
      clear hW1
      refine (HC.out _ HX2.out).mono ?_
      rintro e w5 ⟨rfl, hb5⟩
      have hX5 := HX2.out.keep hb5
      have q0 := (Y1.keep hb5).cs 0 (by simp)
      simp at q0
      clear HX2 Y1 hb5 p1 p3 c0 c1 c2 c3 c4 c5 c6
      cases hs : subI v.se x.s
      · have HQ := hidOf (HBad.out (by rw [HAt.out, hs]; rfl))
        have HX5 := hidOf hX5
        clear hX5 hs
        go_wp2
        go_ret
        rw [HQ.out]
        exact ⟨rfl, HX5.out.below⟩
      · have HQ := hidOf (show subsITo v (k + 1) = true by rw [subsITo_succ, HSt.out, HAt.out, hs]; rfl)
        have HX5 := hidOf hX5
        clear hX5 hs
        go_wp2
        go_roundw
        case rel => exact ⟨k + 1, by omega, by go_num, by rw [HNext.out], HQ.out, HX5.out⟩
        case measure => simp [intOf]; omega
    · have HQ := hidOf (show subsITo v v.sb.length = true by
        have h1 := HSl.out
        have h2 : k = v.sb.length := by omega
        rw [← h2]
        exact HSt.out)
      have HX := hidOf hX
      clear hX
      go_wp2
      go_ret
      rw [HQ.out]
      exact ⟨rfl, HX.out.below⟩
end Go.Proofs.YtffpecdjfcgadaaGreatDoor
