/-
  Walks of what copies a list of timers.
-/
import Derived.Test.YtfahfbeemgigcaaCT
import Derived.Test.YtfahfbeemgigcaaH6
import Derived.Deep.Upon
import Derived.Deep.RegionHeld3
namespace Go.Proofs.Ytfahfbeemgigcaa
open Go.RowKit Pl Il

theorem infoTc : (Try.prog.info? 36).map (fun i => (i.zero, i.size, i.bytes)) = some (some (.agg #[.int .i64 0, .int .i64 0]), 2, 16) := by kernel_rfl
/-- Timers are appended to an own row. -/
theorem append_tims (B : Nat) (v : Value) (m : Nat) (ys : List (Int × Int)) (a : Option Addr) (n cap : Nat) (ts : List (Int × Int)) (w : World) (ho : w.ownsRow B 36 2 v m (tflat ys)) (hB : B ≤ w.heap.size) (hI : TimAt w a n ts) (hn : m + n ≤ 4194304) : ∃ (v' : Value) (w' : World),
    (Builtin.append_ #[24, 24] 24 #[v, .slice a n cap]).run Try.prog w = .ok v' w' ∧ w'.ownsRow B 36 2 v' (m + n) (tflat (ys ++ ts)) ∧ w.grownBy w' v.ownBlock := by
  obtain ⟨i, hi, hz0, hz1, hz2⟩ := info_parts infoTc
  obtain ⟨hlen, h0⟩ := hI
  rcases Nat.eq_zero_or_pos n with rfl | hpos
  · have hx : ts = [] := List.length_eq_zero_iff.1 hlen
    subst hx
    have hg : w.grownBy w v.ownBlock := ⟨rfl, rfl, rfl, Nat.le_refl _, fun _ _ _ => rfl⟩
    have hform : ∃ q c, v = .slice q m c ∧ m ≤ c := by
      obtain ⟨_, ⟨rfl, rfl⟩ | ⟨g, cp, cur, rfl, _, _, hc, _⟩⟩ := id ho
      · exact ⟨_, _, rfl, Nat.le_refl _⟩
      · exact ⟨_, _, rfl, hc⟩
    obtain ⟨q, c, rfl, hmc⟩ := hform
    refine ⟨_, _, run_append_nothing w 24 24 24 36 i Try.underlying24 hi q m c hmc _ ?_, by rw [Nat.add_zero, List.append_nil]; exact ho, hg⟩
    rcases a with _ | ad
    · exact Src.ofNil _ Try.underlying24 cap
    · exact Src.ofSlice _ Try.underlying24 ad 0 cap [] (by simp) (fun j u h => by simp at h) (fun u h => by cases h)
  · rcases h0 with h0 | ⟨b, off, rfl, hb, hcell⟩
    · omega
    · obtain ⟨g', c', w', hr, hown, hgrow, _, _⟩ := run_append_lies (P := Try.prog) w 24 24 B 36 i _ 2 16 Try.underlying24 hi hz0 hz1 hz2 rfl (by omega) v m _ ho ⟨b, off, none⟩ n cap (tflat ts) (by rw [length_tflat, hlen])
        (fun j u h => by
          rw [Addr.add_lit]
          have hj : j < n * 2 := by
            have := (List.getElem?_eq_some_iff.1 h).1
            rw [length_tflat, hlen] at this
            exact this
          obtain ⟨q1, q2⟩ := hcell (j / 2) (by omega)
          have e := tflat_at ts (j / 2) (j % 2) (by omega) (by omega)
          have ej : j / 2 * 2 + j % 2 = j := by omega
          rw [ej, h] at e
          rcases Nat.mod_two_eq_zero_or_one j with hm | hm
          · rw [hm] at e
            rw [show off + j = off + j / 2 * 2 by omega, q1]
            simpa [tC] using e.symm
          · rw [hm] at e
            rw [show off + j = off + j / 2 * 2 + 1 by omega, q2]
            simpa [tC] using e.symm)
        (fun u hu => by
          simp only [tflat, List.mem_flatMap, tC, List.mem_cons, List.not_mem_nil, or_false] at hu
          obtain ⟨p, _, rfl | rfl⟩ := hu <;> rfl) hpos (by unfold maxLen; omega) (by omega) hB _ rfl
      exact ⟨_, w', hr, by rw [tflat_append]; exact hown, hgrow⟩

theorem copiedT_any (a : Option Addr) (n cap : Nat) (ts : List (Int × Int)) (w : World) (hI : TimAt w a n ts) (hn : n ≤ 2097152) :
    Calls Try.prog 55 #[.slice a n cap] w fun e w' => ∃ a' c', e = .returned (.slice a' n c') ∧ w'.ownsRow w.heap.size 36 2 (.slice a' n c') n (tflat ts) ∧ Below w.heap.size w w' := by
  obtain ⟨v, w', hr, ho, hg⟩ := append_tims w.heap.size (.slice none 0 0) 0 [] a n cap ts w (World.ownsRow_nil _ _ _ _) (Nat.le_refl _) hI (by omega)
  rw [Nat.zero_add, List.nil_append] at ho
  have hb : Below w.heap.size w w' := (Below.refl _ _).grown hg (Nat.le_refl _) (fun k hk => by cases hk)
  obtain ⟨a', c', rfl, _, _⟩ := ownT_of ho ts rfl
  have Hr := hidOf hr
  have HO := hidOf ho
  clear hr ho hI hg
  go_enter Try.func55, Try.ntmps55
  go_wp2_with (at_builtin; refine wpList_append_run rfl _ _ 24 rfl _ _ _ rfl rfl Hr.out ?_)
  go_ret
  exact ⟨_, _, rfl, HO.out, hb⟩

theorem own_farT {B : Nat} {w : World} {v : Value} {n : Nat} {t : TypeId} {xs : List Value} (h : w.ownsRow B t 2 v n xs) (b o : Nat) (hb : b < B) (x : Value) : (w.setCell ⟨b, o, none⟩ x).ownsRow B t 2 v n xs := by
  refine h.kept (row := some b) ⟨rfl, rfl, rfl, by simp, fun k _ hk => Below.heap_setCell _ _ _ _ (by rintro rfl; exact hk rfl)⟩ ?_
  cases e : v.ownBlock with
  | none => exact .inl rfl
  | some q => exact .inr (fun e' => by cases e'; have := (h.lt _ e).1; omega)
theorem ownsRow_mono {B B' : Nat} {w : World} {v : Value} {n : Nat} {t : TypeId} {xs : List Value} (h : w.ownsRow B t 2 v n xs) (hb : B' ≤ B) : w.ownsRow B' t 2 v n xs := by
  obtain ⟨hl, hn | ⟨g, cap, cur, rfl, hB, hr⟩⟩ := h
  · exact ⟨hl, .inl hn⟩
  · exact ⟨hl, .inr ⟨g, cap, cur, rfl, Nat.le_trans hb hB, hr⟩⟩
/-- What the copy of a clock holds on to. -/
abbrev ClkS (w : World) (now : Int) (v : Value) (w' : World) : Prop :=
  w'.cell? ⟨w.heap.size, 0, none⟩ = some (.int .i64 now) ∧ w'.cell? ⟨w.heap.size, 1, none⟩ = some v ∧ w.heap.size + 2 ≤ w'.heap.size ∧ Below w.heap.size w w'
theorem ClkS.keep {w : World} {now : Int} {v : Value} {u u' : World} (h : ClkS w now v u) (hb : Below u.heap.size u u') : ClkS w now v u' := by
  obtain ⟨h0, h1, h6, h7⟩ := h
  exact ⟨by rw [hb.cell (p := ⟨w.heap.size, 0, none⟩) (by simp; omega)]; exact h0, by rw [hb.cell (p := ⟨w.heap.size, 1, none⟩) (by simp; omega)]; exact h1, Nat.le_trans h6 hb.size, bl_trans h7 hb⟩
theorem ClkS.drew {w : World} {now : Int} {v : Value} {u : World} (h : ClkS w now v u) : ClkS w now v u.drew := h.keep (Below.refl _ _).drew
theorem ClkS.store {w : World} {now : Int} {v : Value} {u : World} (h : ClkS w now v u) (x y : Value) : ClkS w now v ((u.setCell ⟨w.heap.size + 1, 0, none⟩ x).setCell ⟨w.heap.size + 1, 1, none⟩ y) := by
  obtain ⟨h0, h1, h6, h7⟩ := h
  refine ⟨?_, ?_, by simpa using h6, (h7.setCell (p := ⟨w.heap.size + 1, 0, none⟩) (by simp) x).setCell (p := ⟨w.heap.size + 1, 1, none⟩) (by simp) y⟩
  · rw [World.cell?_setCell_other _ _ _ _ (by simp), World.cell?_setCell_other _ _ _ _ (by simp)]; exact h0
  · rw [World.cell?_setCell_other _ _ _ _ (by simp), World.cell?_setCell_other _ _ _ _ (by simp)]; exact h1
theorem copiedClock_any (now : Int) (a : Option Addr) (n cap : Nat) (ts : List (Int × Int)) (w : World) (hI : TimAt w a n ts) (hn : n ≤ 2097152) :
    Calls Try.prog 36 #[.agg #[.int .i64 now, .slice a n cap]] w fun e w' => ∃ a' c', e = .returned (.agg #[.int .i64 now, .slice a' n c']) ∧ w'.ownsRow w.heap.size 36 2 (.slice a' n c') n (tflat ts) ∧ Below w.heap.size w w' := by
  generalize hW0 : w.alloc (.cells #[.int .i64 now, .slice a n cap] 26) = W0
  generalize hW1 : W0.alloc (.cells #[.int .i64 0, .slice none 0 0] 26) = W1
  have b0 : Below w.heap.size w W0 := by subst hW0; exact bl_alloc (Below.refl _ _) _
  have b1 : Below w.heap.size w W1 := by subst hW1; exact bl_alloc b0 _
  have s0 : W0.heap.size = w.heap.size + 1 := by subst hW0; simp
  have s1 : W1.heap.size = w.heap.size + 2 := by subst hW1; simp [s0]
  have x0 : Box2 w.heap.size (.int .i64 now) (.slice a n cap) W1 := by subst hW1 hW0; exact (Box2.new w _ _ _).alloc _
  have x1 : Box2 (w.heap.size + 1) (.int .i64 0) (.slice none 0 0) W1 := by subst hW1; rw [← s0]; exact Box2.new W0 _ _ _
  have hS : ClkS w now (.slice a n cap) W1 := ⟨x0.c0, x0.c1, by omega, b1⟩
  have HC : ∀ u, Below w.heap.size w u → Hid (Calls Try.prog 55 #[.slice a n cap] u fun e w' => ∃ a' c', e = .returned (.slice a' n c') ∧ w'.ownsRow u.heap.size 36 2 (.slice a' n c') n (tflat ts) ∧ Below u.heap.size u w') := fun u hu => copiedT_any a n cap ts u (hI.keep hu) hn
  have X1 := hidOf x1
  have S1 := hidOf s1
  have HB := hidOf b1
  clear hI b0 b1 x0 x1 s1
  go_enter Try.func36, Try.ntmps36
  go_wp2_with fail
  go_region_held3 (fun w' => ClkS w now (.slice a n cap) w') (first | (exact hS.drew) | (exact ClkS.keep (by assumption) (by assumption)) | (exact ClkS.store (by assumption) _ _))
    (first
      | (go_at_call 55; refine ((HC _ (by simp_all)).out).mono ?_; rintro e w3 ⟨a1, c1, rfl, ho1, hb1⟩; obtain ⟨_, r0, r1, rf⟩ := (X1.out.keep (Below.refl _ _).drew).keep hb1))
  rename_i hT
  go_wp2
  have hsz := S1.out
  have ho2 := (own_farT (own_farT (ownsRow_mono ho1 (B' := w.heap.size + 2) (by simp; omega)) (w.heap.size + 1) 0 (by omega) (.int .i64 now)) (w.heap.size + 1) 1 (by omega) (.slice a1 n c1))
  exact bodyPost_ret (v := .agg #[.int .i64 now, .slice a1 n c1]) (by simp [results, Try.results36, go_sem, r0, r1]) rfl ⟨_, _, rfl, ownsRow_mono ho2 (by omega), hT.2.2.2⟩
end Go.Proofs.Ytfahfbeemgigcaa
