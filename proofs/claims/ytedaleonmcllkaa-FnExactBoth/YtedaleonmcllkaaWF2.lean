/-
  What the laws on filters hold on to, and the law on Other.
-/
import Derived.Test.YtedaleonmcllkaaFO
import Derived.Test.YtedaleonmcllkaaLF3
namespace Go.Proofs.Ytedaleonmcllkaa
open Go.RowKit Pl Il

theorem no_ltF {a : Option Addr} {n k D : Nat} (h : n = 0 ∨ ∀ b off, a = some ⟨b, off, none⟩ → b < D) (hk : D ≤ k) : ∀ off, 0 < n → a ≠ some ⟨k, off, none⟩ := fun off hp e => by
  rcases h with h | h
  · omega
  · have := h _ _ e; omega
theorem no_geF {a : Option Addr} {n k D : Nat} (h : n = 0 ∨ ∀ b off, a = some ⟨b, off, none⟩ → D ≤ b) (hk : k < D) : ∀ off, 0 < n → a ≠ some ⟨k, off, none⟩ := fun off hp e => by
  rcases h with h | h
  · omega
  · have := h _ _ e; omega
theorem TurnF.block {a : Option Addr} {n : Nat} {w w' : World} (h : TurnF a n w w') : w'.os = w.os ∧ w'.tape = w.tape ∧ w'.output = w.output ∧ w.heap.size ≤ w'.heap.size ∧ ∀ k, k < w.heap.size → (∀ off, 0 < n → a ≠ some ⟨k, off, none⟩) → w'.heap[k]? = w.heap[k]? := by
  rcases h with ⟨_, hb⟩ | ⟨hp, b, off, rfl, hg⟩
  · exact ⟨hb.os, hb.tape, hb.output, hb.size, fun k hk _ => hb.block k hk⟩
  · exact ⟨hg.os, hg.tape, hg.output, hg.size, fun k hk hne => hg.block k hk (by intro e; cases e; exact hne off hp rfl)⟩
theorem TurnF.size {a : Option Addr} {n : Nat} {w w' : World} (h : TurnF a n w w') : w.heap.size ≤ w'.heap.size := h.block.2.2.2.1
theorem TurnF.below {a : Option Addr} {n : Nat} {w w' : World} {B : Nat} (h : TurnF a n w w') (hB : B ≤ w.heap.size) (h1 : n = 0 ∨ ∀ b off, a = some ⟨b, off, none⟩ → B ≤ b) : Below B w w' := by
  obtain ⟨o1, o2, o3, o4, o5⟩ := h.block
  exact ⟨o1, o2, o3, o4, fun k hk => o5 k (by omega) (no_geF h1 hk)⟩
theorem OwnF.turned {B : Nat} {w w' : World} {a : Option Addr} {n : Nat} {ts : List Tm} {a1 : Option Addr} {n1 : Nat} (h : OwnF B w a n ts) (ht : TurnF a1 n1 w w') (h1 : n1 = 0 ∨ ∀ b off, a1 = some ⟨b, off, none⟩ → b < B) : OwnF B w' a n ts := by
  obtain ⟨_, _, _, o4, o5⟩ := ht.block
  obtain ⟨⟨hl, hs, hr⟩, ho⟩ := h
  rcases hr with h0 | ⟨b1, off, rfl, hlt, hc⟩
  · exact ⟨⟨hl, hs, .inl h0⟩, .inl h0⟩
  · rcases ho with h0 | ⟨b', off', e, hB, hf⟩
    · exact ⟨⟨hl, hs, .inl h0⟩, .inl h0⟩
    · cases e
      have key : w'.heap[b1]? = w.heap[b1]? := o5 b1 hlt (no_ltF h1 hB)
      refine ⟨⟨hl, hs, .inr ⟨b1, off, rfl, Nat.lt_of_lt_of_le hlt o4, fun i hi => ?_⟩⟩, .inr ⟨b1, off, rfl, hB, fun o => ?_⟩⟩
      · rw [World.cell?_of_block (w := w) (a := ⟨b1, off + i * 3, none⟩) key, World.cell?_of_block (w := w) (a := ⟨b1, off + i * 3 + 1, none⟩) key, World.cell?_of_block (w := w) (a := ⟨b1, off + i * 3 + 2, none⟩) key]; exact hc i hi
      · rw [← hf o]; exact World.frozen?_of_block key
/-- Another slice is turned that lies in a block of its own, above. -/
theorem OwnF.turned' {B : Nat} {w w' : World} {a : Option Addr} {n : Nat} {ts : List Tm} {a1 : Option Addr} {n1 D : Nat} (h : OwnF B w a n ts) (ht : TurnF a1 n1 w w') (hs : n = 0 ∨ ∀ b off, a = some ⟨b, off, none⟩ → b < D) (h1 : n1 = 0 ∨ ∀ b off, a1 = some ⟨b, off, none⟩ → D ≤ b) : OwnF B w' a n ts := by
  obtain ⟨_, _, _, o4, o5⟩ := ht.block
  obtain ⟨⟨hl, hsh, hr⟩, ho⟩ := h
  rcases hr with h0 | ⟨b1, off, rfl, hlt, hc⟩
  · exact ⟨⟨hl, hsh, .inl h0⟩, .inl h0⟩
  · rcases ho with h0 | ⟨b', off', e, hB, hf⟩
    · exact ⟨⟨hl, hsh, .inl h0⟩, .inl h0⟩
    · cases e
      have hbD : n = 0 ∨ b1 < D := hs.imp id (fun h => h b1 off rfl)
      rcases hbD with h0 | hbD
      · exact ⟨⟨hl, hsh, .inl h0⟩, .inl h0⟩
      have key : w'.heap[b1]? = w.heap[b1]? := o5 b1 hlt (no_geF h1 hbD)
      refine ⟨⟨hl, hsh, .inr ⟨b1, off, rfl, Nat.lt_of_lt_of_le hlt o4, fun i hi => ?_⟩⟩, .inr ⟨b1, off, rfl, hB, fun o => ?_⟩⟩
      · rw [World.cell?_of_block (w := w) (a := ⟨b1, off + i * 3, none⟩) key, World.cell?_of_block (w := w) (a := ⟨b1, off + i * 3 + 1, none⟩) key, World.cell?_of_block (w := w) (a := ⟨b1, off + i * 3 + 2, none⟩) key]; exact hc i hi
      · rw [← hf o]; exact World.frozen?_of_block key
theorem span_ltF {a : Option Addr} {n B C : Nat} (D : Nat) (h : n = 0 ∨ ∀ b off, a = some ⟨b, off, none⟩ → B ≤ b ∧ b < C) (hD : C ≤ D) : n = 0 ∨ ∀ b off, a = some ⟨b, off, none⟩ → b < D := h.imp id fun h b off e => by have := h b off e; omega
theorem span_geF {a : Option Addr} {n B C : Nat} (D : Nat) (h : n = 0 ∨ ∀ b off, a = some ⟨b, off, none⟩ → B ≤ b ∧ b < C) (hD : D ≤ B) : n = 0 ∨ ∀ b off, a = some ⟨b, off, none⟩ → D ≤ b := h.imp id fun h b off e => by have := h b off e; omega
theorem mark_nnF (k n : Nat) : ¬ ((k + 3 * n : Nat) : Int) < 0 := by omega
set_option maxRecDepth 100000 in
set_option maxHeartbeats 4000000 in
theorem exactOther_any (a : Option Addr) (n cap : Nat) (w : World) (hn : n ≤ 9223372036854775807) (hA : ∃ ts, TmAt w a n ts) :
    Calls Try.prog 8 #[.slice a n cap] w fun e w' => e = .returned (.bool true) ∧ Below w.heap.size w w' := by
  obtain ⟨ts, hI⟩ := hA
  have HI := hidOf hI
  clear hI
  go_enter Try.func8, Try.ntmps8
  go_wp2_with fail
  refine (szTermS_any a n cap ts _ _ HI.out hn (by omega) (by omega)).mono ?_
  rintro e w0 ⟨⟨k, rfl, hk⟩, hb0⟩
  rcases hk with hk | ⟨hk, _, hnn⟩
  · go_wp2
    go_ret
    exact ⟨rfl, hb0⟩
  have hk' : ¬ k < 0 := by omega
  have m0 := mark_nnF 1 n
  clear hk
  go_wp2_with fail
  refine (toTermS_any a n cap ts _ (HI.out.keep hb0) (by omega)).mono ?_
  rintro e w1 ⟨rfl, ho1, hb1⟩
  have hbA := bl_trans hb0 hb1
  clear hb0 hb1
  go_wp2_with fail
  refine (specOther_any _ n n ts _ ho1.tm (by omega)).mono ?_
  rintro e w2 ⟨ws, ms, cs, rfl, _, hms, how, hb2⟩
  have HB2 := hidOf (bl_trans hbA hb2)
  have HW := hidOf how.tm
  have hml := how.tm.len
  have HI2 := hidOf (HI.out.keep HB2.out)
  have m1 := mark_nnF 1 ms
  clear ho1 hb2 hbA how HI
  go_wp2_with fail
  refine (toTermS_any a n cap ts _ HI2.out (by omega)).mono ?_
  rintro e w3 ⟨rfl, ho3, hb3⟩
  have HX := hidOf ho3
  have HXs := hidOf ho3.span
  have HS3 := hidOf hb3
  clear ho3 hb3
  go_wp2_with fail
  refine (implOther_any _ n n ts _ HX.out.tm (by omega)).mono ?_
  rintro e w4 ⟨a', m', c', rfl, _, _, hog, hb4⟩
  obtain rfl : m' = ms := by rw [← hml, ← hog.tm.len]
  have HG := hidOf hog
  have HGs := hidOf hog.span
  have HX4 := hidOf (HX.out.keep hb4)
  have HS4 := hidOf (bl_trans HS3.out hb4)
  clear hog hb4 HX hml
  obtain ⟨l, hl⟩ : ∃ l, (otherM ts).isSome = l := ⟨_, rfl⟩
  rw [hl]
  have HLB := hidOf hl
  clear hl
  go_wp2_with fail
  refine (eqTermS_any _ _ m' m' c' cs _ _ _ HG.out.tm (HW.out.keep HS4.out) (by omega) (by omega)).mono ?_
  rintro e w5 ⟨rfl, hb5⟩
  rw [eqFL_self]
  have HG5 := hidOf (HG.out.keep hb5)
  have HX5 := hidOf (HX4.out.keep hb5)
  have HS5 := hidOf (bl_trans HS4.out hb5)
  clear HG HX4 hb5
  go_wp2_with fail
  refine (toTermS_any a n cap ts _ (HI2.out.keep HS5.out) (by omega)).mono ?_
  rintro e w6 ⟨rfl, ho6, hb6⟩
  have HG6 := hidOf (HG5.out.keep hb6)
  have HX6 := hidOf (HX5.out.keep hb6)
  have HS6 := hidOf (bl_trans HS5.out hb6)
  have HO6 := hidOf ho6
  clear HG5 HX5 hb6 ho6 HS5
  go_wp2_with fail
  refine (eqTermS_any _ _ n n n n ts ts _ HX6.out.tm HO6.out.tm (by omega) (by omega)).mono ?_
  rintro e w7 ⟨rfl, hb7⟩
  rw [eqFL_self]
  have HG7 := hidOf (HG6.out.keep hb7)
  have HX7 := hidOf (HX6.out.keep hb7)
  have HS7 := hidOf (bl_trans HS6.out hb7)
  have s3 := HS3.out.size
  have s7 := HS7.out.size
  clear HG6 HX6 hb7 HO6 HS6
  go_wp2_with fail
  refine (markTermS_any w2.heap.size _ n n ts 1 _ HX7.out (by omega) (by omega) (by omega)).mono ?_
  rintro e w8 ⟨rfl, _, ht8⟩
  have HG8 := hidOf (HG7.out.turned ht8 (span_ltF _ HXs.out (Nat.le_refl _)))
  have HS8 := hidOf (HS7.out.trans (ht8.below (B := w2.heap.size) s7 (span_geF _ HXs.out (Nat.le_refl _))))
  clear HG7 HX7 ht8 HS7
  go_wp2_with fail
  refine (eqTermS_any _ _ m' m' c' cs _ _ _ HG8.out.tm (HW.out.keep HS8.out) (by omega) (by omega)).mono ?_
  rintro e w9 ⟨rfl, hb9⟩
  rw [eqFL_self]
  have HG9 := hidOf (HG8.out.keep hb9)
  have HS9 := hidOf (bl_trans HS8.out hb9)
  have s9 := HS9.out.size
  clear HG8 hb9 HS8
  go_wp2_with fail
  refine (markTermS_any w3.heap.size _ m' c' _ 1 _ HG9.out (by omega) (by omega) (by omega)).mono ?_
  rintro e w10 ⟨rfl, hg10, ht10⟩
  have HG10 := hidOf hg10
  have HS10 := hidOf (HS9.out.trans (ht10.below (B := w2.heap.size) s9 (span_geF _ HGs.out s3)))
  clear HG9 ht10 HS9 hg10
  go_wp2_with fail
  refine (heldTermS_marks _ m' c' 1 _ HG10.out.tm (by omega) (by omega) (by omega)).mono ?_
  rintro e w11 ⟨rfl, hb11⟩
  have HG11 := hidOf (HG10.out.keep hb11)
  have HS11 := hidOf (bl_trans HS10.out hb11)
  clear HG10 hb11 HS10
  go_wp2_with fail
  refine (toTermS_any a n cap ts _ (HI2.out.keep HS11.out) (by omega)).mono ?_
  rintro e w12 ⟨rfl, ho12, hb12⟩
  have HG12 := hidOf (HG11.out.keep hb12)
  have HS12 := hidOf (bl_trans HS11.out hb12)
  have HO12 := hidOf ho12
  clear HG11 hb12 HS11 ho12
  go_wp2_with fail
  refine (implOther_any _ n n ts _ HO12.out.tm (by omega)).mono ?_
  rintro e w13 ⟨a3, m3, c3, rfl, _, hm3, hoh, hb13⟩
  have HG13 := hidOf (HG12.out.keep hb13)
  have HS13 := hidOf (bl_trans HS12.out hb13)
  have HH := hidOf hoh.tm
  clear HG12 hb13 HS12 HO12 hoh
  rw [HLB.out]
  go_wp2_with fail
  refine (eqTermS_any _ _ m3 m' c3 cs _ _ _ HH.out (HW.out.keep HS13.out) (by omega) (by omega)).mono ?_
  rintro e w14 ⟨rfl, hb14⟩
  rw [eqFL_self]
  have HG14 := hidOf (HG13.out.keep hb14)
  have HS14 := hidOf (bl_trans HS13.out hb14)
  clear HG13 hb14 HS13 HH
  go_wp2_with fail
  refine (heldTermS_marks _ m' c' 1 _ HG14.out.tm (by omega) (by omega) (by omega)).mono ?_
  rintro e w15 ⟨rfl, hb15⟩
  have HS15 := hidOf (bl_trans HB2.out (bl_trans HS14.out hb15))
  clear HG14 hb15 HS14
  go_wp2
  go_ret
  exact ⟨rfl, HS15.out⟩
end Go.Proofs.Ytedaleonmcllkaa
