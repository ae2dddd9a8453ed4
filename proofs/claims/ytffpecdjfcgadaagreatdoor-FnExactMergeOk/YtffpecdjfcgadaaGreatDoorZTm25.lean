/-
  Walks of what copies a list of terms.
  Rows of messages, terms and subscribers: appended to; what they read as.
-/
import Derived.Test.YtffpecdjfcgadaaGreatDoorZTm3
import Derived.Test.YtffpecdjfcgadaaGreatDoorZTm10
import Derived.Deep.Upon
import Derived.Deep.RegionHeld3
import Derived.Test.YtffpecdjfcgadaaGreatDoorZTm24
namespace Go.Proofs.YtffpecdjfcgadaaGreatDoor
open Go.RowKit Pl Il

theorem infoFc : (Tryz.prog.info? 145).map (fun i => (i.zero, i.size, i.bytes)) = some (some (.agg #[.int .i64 0, .int .i64 0, .string ⟨#[]⟩]), 3, 32) := by kernel_rfl
theorem mod3 (j : Nat) : j % 3 = 0 ∨ j % 3 = 1 ∨ j % 3 = 2 := by omega
/-- Terms are appended to an own row. -/
theorem append_tms (B : Nat) (v : Value) (m : Nat) (ys : List Tm) (a : Option Addr) (n cap : Nat) (ts : List Tm) (w : World) (ho : w.ownsRow B 145 3 v m (qflat ys)) (hB : B ≤ w.heap.size) (hI : TmAt w a n ts) (hn : m + n ≤ 4194304) : ∃ (v' : Value) (w' : World),
    (Builtin.append_ #[88, 88] 88 #[v, .slice a n cap]).run Tryz.prog w = .ok v' w' ∧ w'.ownsRow B 145 3 v' (m + n) (qflat (ys ++ ts)) ∧ w.grownBy w' v.ownBlock := by
  obtain ⟨i, hi, hz0, hz1, hz2⟩ := info_parts infoFc
  obtain ⟨hlen, _, h0⟩ := hI
  rcases Nat.eq_zero_or_pos n with rfl | hpos
  · have hx : ts = [] := List.length_eq_zero_iff.1 hlen
    subst hx
    have hg : w.grownBy w v.ownBlock := ⟨rfl, rfl, rfl, Nat.le_refl _, fun _ _ _ => rfl⟩
    have hform : ∃ q c, v = .slice q m c ∧ m ≤ c := by
      obtain ⟨_, ⟨rfl, rfl⟩ | ⟨g, cp, cur, rfl, _, _, hc, _⟩⟩ := id ho
      · exact ⟨_, _, rfl, Nat.le_refl _⟩
      · exact ⟨_, _, rfl, hc⟩
    obtain ⟨q, c, rfl, hmc⟩ := hform
    refine ⟨_, _, run_append_nothing w 88 88 88 145 i Tryz.underlying88 hi q m c hmc _ ?_, by rw [Nat.add_zero, List.append_nil]; exact ho, hg⟩
    rcases a with _ | ad
    · exact Src.ofNil _ Tryz.underlying88 cap
    · exact Src.ofSlice _ Tryz.underlying88 ad 0 cap [] (by simp) (fun j u h => by simp at h) (fun u h => by cases h)
  · rcases h0 with h0 | ⟨b, off, rfl, hb, hcell⟩
    · omega
    · obtain ⟨g', c', w', hr, hown, hgrow, _, _⟩ := run_append_lies (P := Tryz.prog) w 88 88 B 145 i _ 3 32 Tryz.underlying88 hi hz0 hz1 hz2 rfl (by omega) v m _ ho ⟨b, off, none⟩ n cap (qflat ts) (by rw [length_qflat, hlen])
        (fun j u h => by
          rw [Addr.add_lit]
          have hj : j < n * 3 := by
            have := (List.getElem?_eq_some_iff.1 h).1
            rw [length_qflat, hlen] at this
            exact this
          obtain ⟨q1, q2, q3⟩ := hcell (j / 3) (by omega)
          have e := qflat_at ts (j / 3) (j % 3) (by omega) (by omega)
          have ej : j / 3 * 3 + j % 3 = j := by omega
          rw [ej, h] at e
          rcases mod3 j with hm | hm | hm
          · rw [hm] at e
            rw [show off + j = off + j / 3 * 3 by omega, q1]
            simpa [qC] using e.symm
          · rw [hm] at e
            rw [show off + j = off + j / 3 * 3 + 1 by omega, q2]
            simpa [qC] using e.symm
          · rw [hm] at e
            rw [show off + j = off + j / 3 * 3 + 2 by omega, q3]
            simpa [qC] using e.symm)
        (fun u hu => by
          simp only [qflat, List.mem_flatMap, qC, List.mem_cons, List.not_mem_nil, or_false] at hu
          obtain ⟨p, _, rfl | rfl | rfl⟩ := hu <;> rfl) hpos (by unfold maxLen; omega) (by omega) hB _ rfl
      exact ⟨_, w', hr, by rw [qflat_append]; exact hown, hgrow⟩

theorem copiedF_any (a : Option Addr) (n cap : Nat) (ts : List Tm) (w : World) (hI : TmAt w a n ts) (hn : n ≤ 2097152) :
    Calls Tryz.prog 97 #[.slice a n cap] w fun e w' => ∃ a' c', e = .returned (.slice a' n c') ∧ w'.ownsRow w.heap.size 145 3 (.slice a' n c') n (qflat ts) ∧ Below w.heap.size w w' := by
  obtain ⟨v, w', hr, ho, hg⟩ := append_tms w.heap.size (.slice none 0 0) 0 [] a n cap ts w (World.ownsRow_nil _ _ _ _) (Nat.le_refl _) hI (by omega)
  rw [Nat.zero_add, List.nil_append] at ho
  have hb : Below w.heap.size w w' := (Below.refl _ _).grown hg (Nat.le_refl _) (fun k hk => by cases hk)
  obtain ⟨a', c', rfl, _, _⟩ := ownF_of ho ts rfl hI.short
  have Hr := hidOf hr
  have HO := hidOf ho
  clear hr ho hI hg
  go_enter Tryz.func97, Tryz.ntmps97
  go_wp2_with (at_builtin; refine wpList_append_run rfl _ _ 88 rfl _ _ _ rfl rfl Hr.out ?_)
  go_ret
  exact ⟨_, _, rfl, HO.out, hb⟩

theorem own_farF {B : Nat} {w : World} {v : Value} {n : Nat} {t : TypeId} {xs : List Value} (h : w.ownsRow B t 3 v n xs) (b o : Nat) (hb : b < B) (x : Value) : (w.setCell ⟨b, o, none⟩ x).ownsRow B t 3 v n xs := by
  refine h.kept (row := some b) ⟨rfl, rfl, rfl, by simp, fun k _ hk => Below.heap_setCell _ _ _ _ (by rintro rfl; exact hk rfl)⟩ ?_
  cases e : v.ownBlock with
  | none => exact .inl rfl
  | some q => exact .inr (fun e' => by cases e'; have := (h.lt _ e).1; omega)
end Go.Proofs.YtffpecdjfcgadaaGreatDoor
namespace Go.Proofs.YtffpecdjfcgadaaGreatDoor
open Go.RowKit Pl Il

theorem rinfoM : (Tryz.prog.info? 94).map (fun i => (i.zero, i.size, i.bytes)) = some (some (.agg #[.int .i64 0, .int .i64 0, .string ⟨#[]⟩]), 3, 32) := by kernel_rfl
theorem rinfoS : (Tryz.prog.info? 90).map (fun i => (i.zero, i.size, i.bytes)) = some (some (.agg #[.int .i64 0, .int .i64 0, .int .i64 0, .int .i64 0, .int .i64 0, .int .i64 0, .slice none 0 0]), 7, 72) := by kernel_rfl
/-- Elements of any size are appended to an own row. -/
theorem append_gen {E SL : TypeId} {z : Value} {sz by' : Nat} (hu : Tryz.prog.underlying SL = some (.slice E)) (hinf : (Tryz.prog.info? E).map (fun i => (i.zero, i.size, i.bytes)) = some (some z, sz, by')) (hzs : z.cells.size = sz) (hs0 : 0 < sz) (hby : by' ≤ 1000)
    (B m : Nat) (v : Value) (ys : List Value) (a : Option Addr) (n cap : Nat) (news : List Value) (w : World) (ho : w.ownsRow B E sz v m ys) (hB : B ≤ w.heap.size) (hl : news.length = n * sz)
    (hsrc : n = 0 ∨ ∃ b off, a = some ⟨b, off, none⟩ ∧ ∀ j u, news[j]? = some u → w.cell? ⟨b, off + j, none⟩ = some u) (h1 : ∀ u ∈ news, u.oneCell' = true) (hn : m + n ≤ 4194304) :
    ∃ (a' : Option Addr) (c' : Nat) (w' : World), (Builtin.append_ #[SL, SL] SL #[v, .slice a n cap]).run Tryz.prog w = .ok (.slice a' (m + n) c') w' ∧ w'.ownsRow B E sz (.slice a' (m + n) c') (m + n) (ys ++ news) ∧ w.grownBy w' v.ownBlock ∧
      (∀ q, (Value.slice a' (m + n) c').ownBlock = some q → v.ownBlock = some q ∨ w.heap.size ≤ q) := by
  obtain ⟨i, hi, hz0, hz1, hz2⟩ := info_parts hinf
  have hform : ∃ q c, v = .slice q m c ∧ m ≤ c := by
    obtain ⟨_, ⟨rfl, rfl⟩ | ⟨g, cp, cur, rfl, _, _, hc, _⟩⟩ := id ho
    · exact ⟨_, _, rfl, Nat.le_refl _⟩
    · exact ⟨_, _, rfl, hc⟩
  obtain ⟨av, cv, rfl, hcp⟩ := hform
  rcases Nat.eq_zero_or_pos n with rfl | hpos
  · have hx : news = [] := List.length_eq_zero_iff.1 (by simpa using hl)
    subst hx
    refine ⟨av, cv, w, run_append_nothing w SL SL SL E i hu hi av m cv hcp _ ?_, by rw [List.append_nil]; exact ho, ⟨rfl, rfl, rfl, Nat.le_refl _, fun _ _ _ => rfl⟩, fun q e => .inl e⟩
    rcases a with _ | ad
    · exact Src.ofNil _ hu cap
    · exact Src.ofSlice _ hu ad 0 cap [] (by simp) (fun j u h => by simp at h) (fun u h => by cases h)
  · rcases hsrc with h0 | ⟨b, off, rfl, hcell⟩
    · omega
    · have hby2 : (m + n) * by' ≤ 140737488355328 := Nat.le_trans (Nat.mul_le_mul hn hby) (by omega)
      obtain ⟨g', c', w', hr, hown, hgrow, hlz, _⟩ := run_append_lies (P := Tryz.prog) w SL SL B E i z sz by' hu hi hz0 hz1 hz2 hzs hs0 _ m _ ho ⟨b, off, none⟩ n cap news hl
        (fun j u h => by rw [Addr.add_lit]; exact hcell j u h) h1 hpos (by unfold maxLen; omega) hby2 hB _ rfl
      refine ⟨_, c', w', hr, hown, hgrow, fun q e => ?_⟩
      have e' : g' = q := by simpa [Value.ownBlock] using e
      subst e'
      rcases hlz with h | h
      · exact .inl h
      · right; omega
theorem one_qflat (ts : List Tm) : ∀ u ∈ qflat ts, u.oneCell' = true := fun u hu => by
  simp only [qflat, List.mem_flatMap, qC, List.mem_cons, List.not_mem_nil, or_false] at hu
  obtain ⟨p, _, rfl | rfl | rfl⟩ := hu <;> rfl
theorem TmAt.src {w : World} {a : Option Addr} {n : Nat} {ts : List Tm} (h : TmAt w a n ts) : n = 0 ∨ ∃ b off, a = some ⟨b, off, none⟩ ∧ ∀ j u, (qflat ts)[j]? = some u → w.cell? ⟨b, off + j, none⟩ = some u := by
  rcases h.row with k | ⟨b, off, rfl, _, hcell⟩
  · exact .inl k
  · refine .inr ⟨b, off, rfl, fun j u hju => ?_⟩
    have hj : j < n * 3 := by
      have := (List.getElem?_eq_some_iff.1 hju).1
      rw [length_qflat, h.len] at this
      exact this
    obtain ⟨q1, q2, q3⟩ := hcell (j / 3) (by omega)
    have e := qflat_at ts (j / 3) (j % 3) (by have := h.len; omega) (by omega)
    have ej : j / 3 * 3 + j % 3 = j := by omega
    rw [ej, hju] at e
    rcases mod3 j with hm | hm | hm
    · rw [hm] at e
      rw [show off + j = off + j / 3 * 3 by omega, q1]
      simpa [qC] using e.symm
    · rw [hm] at e
      rw [show off + j = off + j / 3 * 3 + 1 by omega, q2]
      simpa [qC] using e.symm
    · rw [hm] at e
      rw [show off + j = off + j / 3 * 3 + 2 by omega, q3]
      simpa [qC] using e.symm
/-- Messages, terms are appended. -/
theorem append_msgR (B m : Nat) (v : Value) (ys : List Tm) (a : Option Addr) (n cap : Nat) (ts : List Tm) (w : World) (ho : w.ownsRow B 94 3 v m (qflat ys)) (hB : B ≤ w.heap.size) (hI : TmAt w a n ts) (hn : m + n ≤ 4194304) :
    ∃ (a' : Option Addr) (c' : Nat) (w' : World), (Builtin.append_ #[50, 50] 50 #[v, .slice a n cap]).run Tryz.prog w = .ok (.slice a' (m + n) c') w' ∧ w'.ownsRow B 94 3 (.slice a' (m + n) c') (m + n) (qflat (ys ++ ts)) ∧ w.grownBy w' v.ownBlock ∧
      (∀ q, (Value.slice a' (m + n) c').ownBlock = some q → v.ownBlock = some q ∨ w.heap.size ≤ q) := by
  rw [qflat_append]
  exact append_gen Tryz.underlying50 rinfoM rfl (by omega) (by omega) B m v _ a n cap (qflat ts) w ho hB (by rw [length_qflat, hI.len]) hI.src (one_qflat ts) hn
theorem append_tmR (B m : Nat) (v : Value) (ys : List Tm) (a : Option Addr) (n cap : Nat) (ts : List Tm) (w : World) (ho : w.ownsRow B 145 3 v m (qflat ys)) (hB : B ≤ w.heap.size) (hI : TmAt w a n ts) (hn : m + n ≤ 4194304) :
    ∃ (a' : Option Addr) (c' : Nat) (w' : World), (Builtin.append_ #[88, 88] 88 #[v, .slice a n cap]).run Tryz.prog w = .ok (.slice a' (m + n) c') w' ∧ w'.ownsRow B 145 3 (.slice a' (m + n) c') (m + n) (qflat (ys ++ ts)) ∧ w.grownBy w' v.ownBlock ∧
      (∀ q, (Value.slice a' (m + n) c').ownBlock = some q → v.ownBlock = some q ∨ w.heap.size ≤ q) := by
  rw [qflat_append]
  exact append_gen Tryz.underlying88 infoFc rfl (by omega) (by omega) B m v _ a n cap (qflat ts) w ho hB (by rw [length_qflat, hI.len]) hI.src (one_qflat ts) hn
/-- Subscribers as a row of cells. -/
def sflat (xs : List Sa) : List Value := xs.flatMap sC
theorem length_sflat (l : List Sa) : (sflat l).length = l.length * 7 := by
  induction l with
  | nil => rfl
  | cons x l ih => simp [sflat, sC] at ih ⊢; omega
theorem sflat_at : ∀ (l : List Sa) (i r : Nat), i < l.length → r < 7 → (sflat l)[i * 7 + r]? = (sC (sg l i))[r]?
  | [], i, r, hi, _ => by simp at hi
  | x :: l, 0, r, _, hr => by
    have e : sflat (x :: l) = sC x ++ sflat l := by simp [sflat]
    rw [e, List.getElem?_append_left (by simp; omega)]
    simp [sg]
  | x :: l, i + 1, r, hi, hr => by
    have e : sflat (x :: l) = sC x ++ sflat l := by simp [sflat]
    have hc : (sC x).length = 7 := rfl
    rw [e, List.getElem?_append_right (by rw [hc]; omega), hc, show (i + 1) * 7 + r - 7 = i * 7 + r by omega, sflat_at l i r (by simpa using hi) hr]
    simp [sg]
theorem sflat_append (l m : List Sa) : sflat (l ++ m) = sflat l ++ sflat m := by simp [sflat]
theorem one_sflat (xs : List Sa) : ∀ u ∈ sflat xs, u.oneCell' = true := fun u hu => by
  simp only [sflat, List.mem_flatMap, List.mem_cons, List.not_mem_nil, or_false] at hu
  obtain ⟨p, _, rfl | rfl | rfl | rfl | rfl | rfl | rfl⟩ := hu <;> rfl
theorem SCell.at {w : World} {b o : Nat} {x : Sa} (h : SCell w b o x) {r : Nat} (hr : r < 7) : w.cell? ⟨b, o + r, none⟩ = (sC x)[r]? := by
  rcases (show r = 0 ∨ r = 1 ∨ r = 2 ∨ r = 3 ∨ r = 4 ∨ r = 5 ∨ r = 6 by omega) with rfl | rfl | rfl | rfl | rfl | rfl | rfl
  · exact h.c0
  · exact h.c1
  · exact h.c2
  · exact h.c3
  · exact h.c4
  · exact h.c5
  · exact h.c6
theorem SubAt.src {w : World} {a : Option Addr} {n : Nat} {xs : List Sa} (h : SubAt w a n xs) : n = 0 ∨ ∃ b off, a = some ⟨b, off, none⟩ ∧ ∀ j u, (sflat xs)[j]? = some u → w.cell? ⟨b, off + j, none⟩ = some u := by
  rcases h.row with k | ⟨b, off, rfl, _, hcell⟩
  · exact .inl k
  · refine .inr ⟨b, off, rfl, fun j u hju => ?_⟩
    have hj : j < n * 7 := by
      have := (List.getElem?_eq_some_iff.1 hju).1
      rw [length_sflat, h.len] at this
      exact this
    have hc := (hcell (j / 7) (by omega)).at (r := j % 7) (by omega)
    have e := sflat_at xs (j / 7) (j % 7) (by have := h.len; omega) (by omega)
    have ej : j / 7 * 7 + j % 7 = j := by omega
    rw [ej, hju] at e
    rw [show off + j = off + j / 7 * 7 + j % 7 by omega, hc, ← e]
theorem append_subR (B m : Nat) (v : Value) (ys : List Sa) (a : Option Addr) (n cap : Nat) (xs : List Sa) (w : World) (ho : w.ownsRow B 90 7 v m (sflat ys)) (hB : B ≤ w.heap.size) (hI : SubAt w a n xs) (hn : m + n ≤ 4194304) :
    ∃ (a' : Option Addr) (c' : Nat) (w' : World), (Builtin.append_ #[51, 51] 51 #[v, .slice a n cap]).run Tryz.prog w = .ok (.slice a' (m + n) c') w' ∧ w'.ownsRow B 90 7 (.slice a' (m + n) c') (m + n) (sflat (ys ++ xs)) ∧ w.grownBy w' v.ownBlock ∧
      (∀ q, (Value.slice a' (m + n) c').ownBlock = some q → v.ownBlock = some q ∨ w.heap.size ≤ q) := by
  rw [sflat_append]
  exact append_gen Tryz.underlying51 rinfoS rfl (by omega) (by omega) B m v _ a n cap (sflat xs) w ho hB (by rw [length_sflat, hI.len]) hI.src (one_sflat xs) hn
/-- What an own row of subscribers reads as. -/
theorem rowS {B : Nat} {w : World} {t : TypeId} {a : Option Addr} {n c : Nat} {xs : List Sa} (h : w.ownsRow B t 7 (.slice a n c) n (sflat xs)) : xs.length = n ∧ n ≤ c ∧ (n = 0 ∨ ∃ b, a = some ⟨b, 0, none⟩ ∧ B ≤ b ∧ b < w.heap.size ∧ (∀ o, w.frozen? ⟨b, o, none⟩ = false) ∧ ∀ i, i < n → SCell w b (0 + i * 7) (sg xs i)) := by
  have hlen : xs.length = n := by have := h.1; rw [length_sflat] at this; omega
  obtain ⟨hl, ⟨e, rfl⟩ | ⟨g, cap, cur, e, hB, hg, hc, hm, _, ht⟩⟩ := id h
  · cases e
    exact ⟨hlen, Nat.le_refl _, .inl rfl⟩
  · cases e
    have hlt : g < w.heap.size := by
      rcases Nat.lt_or_ge g w.heap.size with k | k
      · exact k
      · rw [Array.getElem?_eq_none k] at hg; cases hg
    refine ⟨hlen, hc, .inr ⟨g, rfl, hB, hlt, fun o => by simp [World.frozen?, hg], fun i hi => ?_⟩⟩
    have key : ∀ r, r < 7 → w.cell? ⟨g, i * 7 + r, none⟩ = (sC (sg xs i))[r]? := fun r hr => by
      rw [h.cellAt (i * 7 + r) (by omega), sflat_at xs i r (by omega) hr]
    rw [Nat.zero_add]
    exact ⟨key 0 (by omega), key 1 (by omega), key 2 (by omega), key 3 (by omega), key 4 (by omega), key 5 (by omega), key 6 (by omega)⟩
end Go.Proofs.YtffpecdjfcgadaaGreatDoor
