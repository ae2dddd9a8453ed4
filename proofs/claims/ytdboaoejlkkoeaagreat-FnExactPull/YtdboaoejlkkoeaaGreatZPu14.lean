/-
  Walks of what copies a list of terms
  Rows of messages, terms and subscribers: appended to; what they read a
  Walks of the program's lists: a copy
  Walks of the program's lists: a copy, and who is woken
-/
import Derived.Test.YtdboaoejlkkoeaaGreatZPu13
import Derived.Deep.Upon
namespace Go.Proofs.YtdboaoejlkkoeaaGreat
open Go.RowKit Pl Il
theorem infoFc : (Tryz.prog.info? 132).map (fun i => (i.zero, i.size, i.bytes)) = some (some (.agg #[.int .i64 0, .int .i64 0, .string ⟨#[]⟩]), 3, 32) := by kernel_rfl
theorem mod3 (j : Nat) : j % 3 = 0 ∨ j % 3 = 1 ∨ j % 3 = 2 := by omega
theorem append_tms (B : Nat) (v : Value) (m : Nat) (ys : List Tm) (a : Option Addr) (n cap : Nat) (ts : List Tm) (w : World) (ho : w.ownsRow B 132 3 v m (qflat ys)) (hB : B ≤ w.heap.size) (hI : TmAt w a n ts) (hn : m + n ≤ 4194304) : ∃ (v' : Value) (w' : World),
    (Builtin.append_ #[39, 39] 39 #[v, .slice a n cap]).run Tryz.prog w = .ok v' w' ∧ w'.ownsRow B 132 3 v' (m + n) (qflat (ys ++ ts)) ∧ w.grownBy w' v.ownBlock := by
  obtain ⟨i, hi, hz0, hz1, hz2⟩ := info_parts infoFc
  obtain ⟨hlen, _, h0⟩ := hI
  rcases Nat.eq_zero_or_pos n with rfl | hpos
  · have hx : ts = [] := List.length_eq_zero_iff.1 hlen
    subst hx
    have hg : w.grownBy w v.ownBlock := ⟨rfl, rfl, rfl, Nat.le_refl _, fun _ _ _ => rfl⟩
    have hform : ∃ q c, v = .slice q m c ∧ m ≤ c := by
      obtain ⟨_, ⟨rfl, rfl⟩ | ⟨g, cp, cur, rfl, _, _, hc, _⟩⟩ := id ho
      · exact ⟨_, _, rfl, Nat.le_refl _⟩
      · exact ⟨_, _, rfl, hc⟩
    obtain ⟨q, c, rfl, hmc⟩ := hform
    refine ⟨_, _, run_append_nothing w 39 39 39 132 i Tryz.underlying39 hi q m c hmc _ ?_, by rw [Nat.add_zero, List.append_nil]; exact ho, hg⟩
    rcases a with _ | ad
    · exact Src.ofNil _ Tryz.underlying39 cap
    · exact Src.ofSlice _ Tryz.underlying39 ad 0 cap [] (by simp) (fun j u h => by simp at h) (fun u h => by cases h)
  · rcases h0 with h0 | ⟨b, off, rfl, hb, hcell⟩
    · omega
    · obtain ⟨g', c', w', hr, hown, hgrow, _, _⟩ := run_append_lies (P := Tryz.prog) w 39 39 B 132 i _ 3 32 Tryz.underlying39 hi hz0 hz1 hz2 rfl (by omega) v m _ ho ⟨b, off, none⟩ n cap (qflat ts) (by rw [length_qflat, hlen])
        (fun j u h => by
          rw [Addr.add_lit]
          have hj : j < n * 3 := by
            have := (List.getElem?_eq_some_iff.1 h).1
            rw [length_qflat, hlen] at this
            exact this
          obtain ⟨q1, q2, q3⟩ := hcell (j / 3) (by omega)
          have e := qflat_at ts (j / 3) (j % 3) (by omega) (by omega)
          have ej : j / 3 * 3 + j % 3 = j := by omega
          rw [ej, h] at e
          rcases mod3 j with hm | hm | hm
          · rw [hm] at e
            rw [show off + j = off + j / 3 * 3 by omega, q1]
            simpa [qC] using e.symm
          · rw [hm] at e
            rw [show off + j = off + j / 3 * 3 + 1 by omega, q2]
            simpa [qC] using e.symm
          · rw [hm] at e
            rw [show off + j = off + j / 3 * 3 + 2 by omega, q3]
            simpa [qC] using e.symm)
        (fun u hu => by
          simp only [qflat, List.mem_flatMap, qC, List.mem_cons, List.not_mem_nil, or_false] at hu
          obtain ⟨p, _, rfl | rfl | rfl⟩ := hu <;> rfl) hpos (by unfold maxLen; omega) (by omega) hB _ rfl
      exact ⟨_, w', hr, by rw [qflat_append]; exact hown, hgrow⟩
theorem copiedF_any (a : Option Addr) (n cap : Nat) (ts : List Tm) (w : World) (hI : TmAt w a n ts) (hn : n ≤ 2097152) :
    Calls Tryz.prog 168 #[.slice a n cap] w fun e w' => ∃ a' c', e = .returned (.slice a' n c') ∧ w'.ownsRow w.heap.size 132 3 (.slice a' n c') n (qflat ts) ∧ Below w.heap.size w w' := by
  obtain ⟨v, w', hr, ho, hg⟩ := append_tms w.heap.size (.slice none 0 0) 0 [] a n cap ts w (World.ownsRow_nil _ _ _ _) (Nat.le_refl _) hI (by omega)
  rw [Nat.zero_add, List.nil_append] at ho
  have hb : Below w.heap.size w w' := (Below.refl _ _).grown hg (Nat.le_refl _) (fun k hk => by cases hk)
  obtain ⟨a', c', rfl, _, _⟩ := ownF_of ho ts rfl hI.short
  have Hr := hidOf hr
  have HO := hidOf ho
  clear hr ho hI hg
  go_enter Tryz.func168, Tryz.ntmps168
  go_wp2_with (at_builtin; refine wpList_append_run rfl _ _ 39 rfl _ _ _ rfl rfl Hr.out ?_)
  go_ret
  exact ⟨_, _, rfl, HO.out, hb⟩
open Go.RowKit Pl Il
theorem rinfoM : (Tryz.prog.info? 30).map (fun i => (i.zero, i.size, i.bytes)) = some (some (.agg #[.int .i64 0, .int .i64 0, .string ⟨#[]⟩]), 3, 32) := by kernel_rfl
theorem rinfoS : (Tryz.prog.info? 41).map (fun i => (i.zero, i.size, i.bytes)) = some (some (.agg #[.int .i64 0, .int .i64 0, .int .i64 0, .int .i64 0, .int .i64 0, .int .i64 0, .slice none 0 0]), 7, 72) := by kernel_rfl
theorem append_gen {E SL : TypeId} {z : Value} {sz by' : Nat} (hu : Tryz.prog.underlying SL = some (.slice E)) (hinf : (Tryz.prog.info? E).map (fun i => (i.zero, i.size, i.bytes)) = some (some z, sz, by')) (hzs : z.cells.size = sz) (hs0 : 0 < sz) (hby : by' ≤ 1000)
    (B m : Nat) (v : Value) (ys : List Value) (a : Option Addr) (n cap : Nat) (news : List Value) (w : World) (ho : w.ownsRow B E sz v m ys) (hB : B ≤ w.heap.size) (hl : news.length = n * sz)
    (hsrc : n = 0 ∨ ∃ b off, a = some ⟨b, off, none⟩ ∧ ∀ j u, news[j]? = some u → w.cell? ⟨b, off + j, none⟩ = some u) (h1 : ∀ u ∈ news, u.oneCell' = true) (hn : m + n ≤ 4194304) :
    ∃ (a' : Option Addr) (c' : Nat) (w' : World), (Builtin.append_ #[SL, SL] SL #[v, .slice a n cap]).run Tryz.prog w = .ok (.slice a' (m + n) c') w' ∧ w'.ownsRow B E sz (.slice a' (m + n) c') (m + n) (ys ++ news) ∧ w.grownBy w' v.ownBlock ∧
      (∀ q, (Value.slice a' (m + n) c').ownBlock = some q → v.ownBlock = some q ∨ w.heap.size ≤ q) := by
  obtain ⟨i, hi, hz0, hz1, hz2⟩ := info_parts hinf
  have hform : ∃ q c, v = .slice q m c ∧ m ≤ c := by
    obtain ⟨_, ⟨rfl, rfl⟩ | ⟨g, cp, cur, rfl, _, _, hc, _⟩⟩ := id ho
    · exact ⟨_, _, rfl, Nat.le_refl _⟩
    · exact ⟨_, _, rfl, hc⟩
  obtain ⟨av, cv, rfl, hcp⟩ := hform
  rcases Nat.eq_zero_or_pos n with rfl | hpos
  · have hx : news = [] := List.length_eq_zero_iff.1 (by simpa using hl)
    subst hx
    refine ⟨av, cv, w, run_append_nothing w SL SL SL E i hu hi av m cv hcp _ ?_, by rw [List.append_nil]; exact ho, ⟨rfl, rfl, rfl, Nat.le_refl _, fun _ _ _ => rfl⟩, fun q e => .inl e⟩
    rcases a with _ | ad
    · exact Src.ofNil _ hu cap
    · exact Src.ofSlice _ hu ad 0 cap [] (by simp) (fun j u h => by simp at h) (fun u h => by cases h)
  · rcases hsrc with h0 | ⟨b, off, rfl, hcell⟩
    · omega
    · have hby2 : (m + n) * by' ≤ 140737488355328 := Nat.le_trans (Nat.mul_le_mul hn hby) (by omega)
      obtain ⟨g', c', w', hr, hown, hgrow, hlz, _⟩ := run_append_lies (P := Tryz.prog) w SL SL B E i z sz by' hu hi hz0 hz1 hz2 hzs hs0 _ m _ ho ⟨b, off, none⟩ n cap news hl
        (fun j u h => by rw [Addr.add_lit]; exact hcell j u h) h1 hpos (by unfold maxLen; omega) hby2 hB _ rfl
      refine ⟨_, c', w', hr, hown, hgrow, fun q e => ?_⟩
      have e' : g' = q := by simpa [Value.ownBlock] using e
      subst e'
      rcases hlz with h | h
      · exact .inl h
      · right; omega
theorem one_qflat (ts : List Tm) : ∀ u ∈ qflat ts, u.oneCell' = true := fun u hu => by
  simp only [qflat, List.mem_flatMap, qC, List.mem_cons, List.not_mem_nil, or_false] at hu
  obtain ⟨p, _, rfl | rfl | rfl⟩ := hu <;> rfl
theorem TmAt.src {w : World} {a : Option Addr} {n : Nat} {ts : List Tm} (h : TmAt w a n ts) : n = 0 ∨ ∃ b off, a = some ⟨b, off, none⟩ ∧ ∀ j u, (qflat ts)[j]? = some u → w.cell? ⟨b, off + j, none⟩ = some u := by
  rcases h.row with k | ⟨b, off, rfl, _, hcell⟩
  · exact .inl k
  · refine .inr ⟨b, off, rfl, fun j u hju => ?_⟩
    have hj : j < n * 3 := by
      have := (List.getElem?_eq_some_iff.1 hju).1
      rw [length_qflat, h.len] at this
      exact this
    obtain ⟨q1, q2, q3⟩ := hcell (j / 3) (by omega)
    have e := qflat_at ts (j / 3) (j % 3) (by have := h.len; omega) (by omega)
    have ej : j / 3 * 3 + j % 3 = j := by omega
    rw [ej, hju] at e
    rcases mod3 j with hm | hm | hm
    · rw [hm] at e
      rw [show off + j = off + j / 3 * 3 by omega, q1]
      simpa [qC] using e.symm
    · rw [hm] at e
      rw [show off + j = off + j / 3 * 3 + 1 by omega, q2]
      simpa [qC] using e.symm
    · rw [hm] at e
      rw [show off + j = off + j / 3 * 3 + 2 by omega, q3]
      simpa [qC] using e.symm
theorem append_msgR (B m : Nat) (v : Value) (ys : List Tm) (a : Option Addr) (n cap : Nat) (ts : List Tm) (w : World) (ho : w.ownsRow B 30 3 v m (qflat ys)) (hB : B ≤ w.heap.size) (hI : TmAt w a n ts) (hn : m + n ≤ 4194304) :
    ∃ (a' : Option Addr) (c' : Nat) (w' : World), (Builtin.append_ #[24, 24] 24 #[v, .slice a n cap]).run Tryz.prog w = .ok (.slice a' (m + n) c') w' ∧ w'.ownsRow B 30 3 (.slice a' (m + n) c') (m + n) (qflat (ys ++ ts)) ∧ w.grownBy w' v.ownBlock ∧
      (∀ q, (Value.slice a' (m + n) c').ownBlock = some q → v.ownBlock = some q ∨ w.heap.size ≤ q) := by
  rw [qflat_append]
  exact append_gen Tryz.underlying24 rinfoM rfl (by omega) (by omega) B m v _ a n cap (qflat ts) w ho hB (by rw [length_qflat, hI.len]) hI.src (one_qflat ts) hn
theorem append_tmR (B m : Nat) (v : Value) (ys : List Tm) (a : Option Addr) (n cap : Nat) (ts : List Tm) (w : World) (ho : w.ownsRow B 132 3 v m (qflat ys)) (hB : B ≤ w.heap.size) (hI : TmAt w a n ts) (hn : m + n ≤ 4194304) :
    ∃ (a' : Option Addr) (c' : Nat) (w' : World), (Builtin.append_ #[39, 39] 39 #[v, .slice a n cap]).run Tryz.prog w = .ok (.slice a' (m + n) c') w' ∧ w'.ownsRow B 132 3 (.slice a' (m + n) c') (m + n) (qflat (ys ++ ts)) ∧ w.grownBy w' v.ownBlock ∧
      (∀ q, (Value.slice a' (m + n) c').ownBlock = some q → v.ownBlock = some q ∨ w.heap.size ≤ q) := by
  rw [qflat_append]
  exact append_gen Tryz.underlying39 infoFc rfl (by omega) (by omega) B m v _ a n cap (qflat ts) w ho hB (by rw [length_qflat, hI.len]) hI.src (one_qflat ts) hn
def sflat (xs : List Sa) : List Value := xs.flatMap sC
theorem length_sflat (l : List Sa) : (sflat l).length = l.length * 7 := by
  induction l with
  | nil => rfl
  | cons x l ih => simp [sflat, sC] at ih ⊢; omega
theorem sflat_at : ∀ (l : List Sa) (i r : Nat), i < l.length → r < 7 → (sflat l)[i * 7 + r]? = (sC (sg l i))[r]?
  | [], i, r, hi, _ => by simp at hi
  | x :: l, 0, r, _, hr => by
    have e : sflat (x :: l) = sC x ++ sflat l := by simp [sflat]
    rw [e, List.getElem?_append_left (by simp; omega)]
    simp [sg]
  | x :: l, i + 1, r, hi, hr => by
    have e : sflat (x :: l) = sC x ++ sflat l := by simp [sflat]
    have hc : (sC x).length = 7 := rfl
    rw [e, List.getElem?_append_right (by rw [hc]; omega), hc, show (i + 1) * 7 + r - 7 = i * 7 + r by omega, sflat_at l i r (by simpa using hi) hr]
    simp [sg]
theorem sflat_append (l m : List Sa) : sflat (l ++ m) = sflat l ++ sflat m := by simp [sflat]
theorem one_sflat (xs : List Sa) : ∀ u ∈ sflat xs, u.oneCell' = true := fun u hu => by
  simp only [sflat, List.mem_flatMap, List.mem_cons, List.not_mem_nil, or_false] at hu
  obtain ⟨p, _, rfl | rfl | rfl | rfl | rfl | rfl | rfl⟩ := hu <;> rfl
theorem SCell.at {w : World} {b o : Nat} {x : Sa} (h : SCell w b o x) {r : Nat} (hr : r < 7) : w.cell? ⟨b, o + r, none⟩ = (sC x)[r]? := by
  rcases (show r = 0 ∨ r = 1 ∨ r = 2 ∨ r = 3 ∨ r = 4 ∨ r = 5 ∨ r = 6 by omega) with rfl | rfl | rfl | rfl | rfl | rfl | rfl
  · exact h.c0
  · exact h.c1
  · exact h.c2
  · exact h.c3
  · exact h.c4
  · exact h.c5
  · exact h.c6
theorem SubAt.src {w : World} {a : Option Addr} {n : Nat} {xs : List Sa} (h : SubAt w a n xs) : n = 0 ∨ ∃ b off, a = some ⟨b, off, none⟩ ∧ ∀ j u, (sflat xs)[j]? = some u → w.cell? ⟨b, off + j, none⟩ = some u := by
  rcases h.row with k | ⟨b, off, rfl, _, hcell⟩
  · exact .inl k
  · refine .inr ⟨b, off, rfl, fun j u hju => ?_⟩
    have hj : j < n * 7 := by
      have := (List.getElem?_eq_some_iff.1 hju).1
      rw [length_sflat, h.len] at this
      exact this
    have hc := (hcell (j / 7) (by omega)).at (r := j % 7) (by omega)
    have e := sflat_at xs (j / 7) (j % 7) (by have := h.len; omega) (by omega)
    have ej : j / 7 * 7 + j % 7 = j := by omega
    rw [ej, hju] at e
    rw [show off + j = off + j / 7 * 7 + j % 7 by omega, hc, ← e]
theorem append_subR (B m : Nat) (v : Value) (ys : List Sa) (a : Option Addr) (n cap : Nat) (xs : List Sa) (w : World) (ho : w.ownsRow B 41 7 v m (sflat ys)) (hB : B ≤ w.heap.size) (hI : SubAt w a n xs) (hn : m + n ≤ 4194304) :
    ∃ (a' : Option Addr) (c' : Nat) (w' : World), (Builtin.append_ #[25, 25] 25 #[v, .slice a n cap]).run Tryz.prog w = .ok (.slice a' (m + n) c') w' ∧ w'.ownsRow B 41 7 (.slice a' (m + n) c') (m + n) (sflat (ys ++ xs)) ∧ w.grownBy w' v.ownBlock ∧
      (∀ q, (Value.slice a' (m + n) c').ownBlock = some q → v.ownBlock = some q ∨ w.heap.size ≤ q) := by
  rw [sflat_append]
  exact append_gen Tryz.underlying25 rinfoS rfl (by omega) (by omega) B m v _ a n cap (sflat xs) w ho hB (by rw [length_sflat, hI.len]) hI.src (one_sflat xs) hn
theorem rowS {B : Nat} {w : World} {t : TypeId} {a : Option Addr} {n c : Nat} {xs : List Sa} (h : w.ownsRow B t 7 (.slice a n c) n (sflat xs)) : xs.length = n ∧ n ≤ c ∧ (n = 0 ∨ ∃ b, a = some ⟨b, 0, none⟩ ∧ B ≤ b ∧ b < w.heap.size ∧ (∀ o, w.frozen? ⟨b, o, none⟩ = false) ∧ ∀ i, i < n → SCell w b (0 + i * 7) (sg xs i)) := by
  have hlen : xs.length = n := by have := h.1; rw [length_sflat] at this; omega
  obtain ⟨hl, ⟨e, rfl⟩ | ⟨g, cap, cur, e, hB, hg, hc, hm, _, ht⟩⟩ := id h
  · cases e
    exact ⟨hlen, Nat.le_refl _, .inl rfl⟩
  · cases e
    have hlt : g < w.heap.size := by
      rcases Nat.lt_or_ge g w.heap.size with k | k
      · exact k
      · rw [Array.getElem?_eq_none k] at hg; cases hg
    refine ⟨hlen, hc, .inr ⟨g, rfl, hB, hlt, fun o => by simp [World.frozen?, hg], fun i hi => ?_⟩⟩
    have key : ∀ r, r < 7 → w.cell? ⟨g, i * 7 + r, none⟩ = (sC (sg xs i))[r]? := fun r hr => by
      rw [h.cellAt (i * 7 + r) (by omega), sflat_at xs i r (by omega) hr]
    rw [Nat.zero_add]
    exact ⟨key 0 (by omega), key 1 (by omega), key 2 (by omega), key 3 (by omega), key 4 (by omega), key 5 (by omega), key 6 (by omega)⟩
open Go.RowKit Pl Il
theorem copied_run (a : Option Addr) (n cap : Nat) (xs : List Int) (w : World) (hI : IntsAt w a n xs) (hn : n ≤ 2097152) : ∃ (v : Value) (w' : World),
    (Builtin.append_ #[26, 26] 26 #[.slice none 0 0, .slice a n cap]).run Tryz.prog w = .ok v w' ∧ w'.ownsRow w.heap.size 3 1 v n (xs.map (Value.int .i64)) ∧ Below w.heap.size w w' := by
  obtain ⟨i, hi, hz0, hz1, hz2⟩ := info_parts info3
  have hnil : w.ownsRow w.heap.size 3 1 (.slice none 0 0) 0 [] := ⟨rfl, .inl ⟨rfl, rfl⟩⟩
  obtain ⟨hlen, h0⟩ := hI
  rcases Nat.eq_zero_or_pos n with rfl | hpos
  · have hx : xs = [] := List.length_eq_zero_iff.1 hlen
    subst hx
    refine ⟨_, _, run_append_nothing w 26 26 26 3 i Tryz.underlying26 hi none 0 0 (Nat.le_refl _) _ ?_, hnil, Below.refl _ _⟩
    rcases a with _ | ad
    · exact Src.ofNil _ Tryz.underlying26 cap
    · exact Src.ofSlice _ Tryz.underlying26 ad 0 cap [] (by simp) (fun j u h => by simp at h) (fun u h => by cases h)
  · rcases h0 with h0 | ⟨b, off, rfl, hb, hcell⟩
    · omega
    · obtain ⟨g', c', w', hr, hown, hgrow, _, _⟩ := run_append_lies (P := Tryz.prog) w 26 26 w.heap.size 3 i (.int .i64 0) 1 8 Tryz.underlying26 hi hz0 hz1 hz2 rfl (by omega) _ 0 _ hnil ⟨b, off, none⟩ n cap (xs.map (Value.int .i64)) (by simp [hlen])
        (fun j u h => by
          rw [Addr.add_lit]
          have hj : j < n := by
            have := (List.getElem?_eq_some_iff.1 h).1
            simpa [hlen] using this
          rw [hcell j hj]
          simp only [List.getElem?_map] at h
          rw [List.getElem?_eq_getElem (by omega)] at h
          simp only [Option.map_some, Option.some.injEq] at h
          rw [← h]
          simp [List.getD, List.getElem?_eq_getElem (show j < xs.length by omega)])
        (fun u hu => by obtain ⟨_, _, rfl⟩ := List.mem_map.1 hu; rfl) hpos (by unfold maxLen; omega) (by omega) (Nat.le_refl _) _ rfl
      rw [Nat.zero_add] at hr hown
      rw [List.nil_append] at hown
      exact ⟨_, w', hr, hown, (Below.refl _ _).grown hgrow (Nat.le_refl _) (fun k hk => by cases hk)⟩
end Go.Proofs.YtdboaoejlkkoeaaGreat
namespace Go.Proofs.YtdboaoejlkkoeaaGreat
open Go.RowKit Go.Maps Pl Il
theorem Il.OwnAt.grown {B : Nat} {w w' : World} {a : Option Addr} {n mb : Nat} {xs : List Int} (h : Il.OwnAt B w a n xs) (hg : w.grownBy w' (some mb)) (hm : mb < B) : Il.OwnAt B w' a n xs := by
  have key : ∀ b, b < w.heap.size → B ≤ b → w'.heap[b]? = w.heap[b]? := fun b hb hB => hg.block b hb (by intro e; cases e; omega)
  obtain ⟨⟨hl, hr⟩, ho⟩ := h
  rcases hr with h0 | ⟨b, off, rfl, hlt, hc⟩
  · exact ⟨⟨hl, .inl h0⟩, .inl h0⟩
  · rcases ho with h0 | ⟨b', off', e, hB, hf⟩
    · exact ⟨⟨hl, .inl h0⟩, .inl h0⟩
    · cases e
      refine ⟨⟨hl, .inr ⟨b, off, rfl, Nat.lt_of_lt_of_le hlt hg.size, fun i hi => ?_⟩⟩, .inr ⟨b, off, rfl, hB, fun i hi => ?_⟩⟩
      · rw [← hc i hi]; exact World.cell?_of_block (key b hlt hB)
      · rw [← hf i hi]; exact World.frozen?_of_block (key b hlt hB)
theorem Il.OwnAt.take {B : Nat} {w : World} {a : Option Addr} {n : Nat} {xs : List Int} (h : Il.OwnAt B w a n xs) (i : Nat) (hi : i ≤ n) : Il.OwnAt B w a i (xs.take i) := by
  refine ⟨h.ints.take i hi, ?_⟩
  rcases h.own with h0 | ⟨b, off, rfl, hB, hf⟩
  · exact .inl (by omega)
  · exact .inr ⟨b, off, rfl, hB, fun j hj => hf j (by omega)⟩
open Go.RowKit Go.Maps Pl Il
theorem implPlaceOf_any (a : Option Addr) (n cap : Nat) (xs : List Int) (x : Int) (w : World) (hI : IntsAt w a n xs) (hn : n ≤ 2097152) (hw : wfL xs) (hx : (Lit.int .i64 x).wf = true) :
    Calls Tryz.prog 179 #[.slice a n cap, .int .i64 x] w fun e w' => e = .returned (.int .i64 (placeL xs x)) ∧ Below w.heap.size w w' := by
  go_enter Tryz.func179, Tryz.ntmps179
  go_wp2_with fail
  refine (queueOf_any a n cap xs _ hI hn hw).mono ?_
  rintro e w1 ⟨qb, rfl, hq, hb⟩
  go_wp2_with fail
  refine (placeOf_any _ qb xs [] x _ hq hx).mono ?_
  rintro e w2 ⟨rfl, rfl⟩
  have hp := place_placeL xs x
  have HP := hidOf hp
  clear hp hq hI
  cases hc : placeG xs [] x with
  | none =>
    go_wp2
    go_ret
    refine ⟨rint ?_, hb⟩
    rw [HP.out, hc]
  | some i =>
    go_wp2
    go_ret
    refine ⟨rint ?_, hb⟩
    rw [HP.out, hc]
open Go.RowKit Go.Maps Pl Il
theorem ownsRow_keep {B : Nat} {w w' : World} {v : Value} {n s : Nat} {t : TypeId} {xs : List Value} (h : w.ownsRow B t s v n xs) (hb : Below w.heap.size w w') : w'.ownsRow B t s v n xs := by
  obtain ⟨hl, hn | ⟨g, cap, cur, rfl, hB, hg, hr⟩⟩ := h
  · exact ⟨hl, .inl hn⟩
  · have hlt : g < w.heap.size := by
      rcases Nat.lt_or_ge g w.heap.size with k | k
      · exact k
      · rw [Array.getElem?_eq_none k] at hg; cases hg
    exact ⟨hl, .inr ⟨g, cap, cur, rfl, hB, by rw [hb.block g hlt]; exact hg, hr⟩⟩
theorem isCount_any (x : Int) (w : World) :
    Calls Tryz.prog 95 #[.int .i64 x] w fun e w' => e = .returned (.bool (cnt x)) ∧ w' = w := by
  go_enter Tryz.func95, Tryz.ntmps95
  go_wp2
  all_goals go_ret
  all_goals (refine ⟨rbool ?_, rfl⟩; simp [cnt]; try omega)
open Go.RowKit Go.Maps Pl Il
abbrev intsV (xs : List Int) : List Value := xs.map (Value.int .i64)
structure Rows2 (B : Nat) (w : World) (A : Na) (ln gs : List Int) : Prop where
  one : w.ownsRow B 3 1 (.slice A.a A.n A.c) A.n (intsV ln)
  two : w.ownsRow B 3 1 (.slice A.a' A.n' A.c') A.n' (intsV gs)
  ne : ∀ q, (Value.slice A.a A.n A.c).ownBlock = some q → (Value.slice A.a' A.n' A.c').ownBlock ≠ some q
section
variable {B B' : Nat} {w w' : World} {A : Na} {ln gs : List Int}
theorem row_set {v : Value} {n : Nat} {xs : List Value} (h : w.ownsRow B 3 1 v n xs) (N o : Nat) (hne : v.ownBlock ≠ some N) (x : Value) : (w.setCell ⟨N, o, none⟩ x).ownsRow B 3 1 v n xs := by
  refine h.kept (row := some N) ⟨rfl, rfl, rfl, by simp, fun k _ hk => Below.heap_setCell _ _ _ _ (by rintro rfl; exact hk rfl)⟩ ?_
  cases e : v.ownBlock with
  | none => exact .inl rfl
  | some q => exact .inr (fun e' => hne (by rw [e, e']))
theorem row_mono {v : Value} {n : Nat} {xs : List Value} (h : w.ownsRow B 3 1 v n xs) (hb : B' ≤ B) : w.ownsRow B' 3 1 v n xs :=
  ⟨h.1, h.2.imp id fun ⟨g, cap, cur, h1, h2, h3⟩ => ⟨g, cap, cur, h1, Nat.le_trans hb h2, h3⟩⟩
theorem row_below {v : Value} {n : Nat} {xs : List Value} (h : w.ownsRow B 3 1 v n xs) (hb : Below w.heap.size w w') : w'.ownsRow B 3 1 v n xs := ownsRow_keep h hb
theorem row_own {a : Option Addr} {n c : Nat} {xs : List Int} (h : w.ownsRow B 3 1 (.slice a n c) n (intsV xs)) : Il.OwnAt B w a n xs ∧ n ≤ c := by
  have hcp := own_cap h
  obtain ⟨a', c', e, ho⟩ := own_of h xs rfl
  injection e with e1 _ _
  subst e1
  exact ⟨ho, hcp⟩
theorem Rows2.keep (h : Rows2 B w A ln gs) (hb : Below w.heap.size w w') : Rows2 B w' A ln gs := ⟨row_below h.one hb, row_below h.two hb, h.ne⟩
theorem Rows2.mono (h : Rows2 B w A ln gs) (hB : B' ≤ B) : Rows2 B' w A ln gs := ⟨row_mono h.one hB, row_mono h.two hB, h.ne⟩
theorem Rows2.set (h : Rows2 B w A ln gs) (N o : Nat) (h1 : (Value.slice A.a A.n A.c).ownBlock ≠ some N) (h2 : (Value.slice A.a' A.n' A.c').ownBlock ≠ some N) (x : Value) : Rows2 B (w.setCell ⟨N, o, none⟩ x) A ln gs := ⟨row_set h.one N o h1 x, row_set h.two N o h2 x, h.ne⟩
theorem Rows2.far (h : Rows2 B w A ln gs) (N o : Nat) (hN : N < B) (x : Value) : Rows2 B (w.setCell ⟨N, o, none⟩ x) A ln gs :=
  h.set N o (fun e => by have := (h.one.lt N e).1; omega) (fun e => by have := (h.two.lt N e).1; omega) x
theorem Rows2.ok (h : Rows2 B w A ln gs) : A.ok := ⟨(row_own h.one).2, (row_own h.two).2⟩
theorem Rows2.len (h : Rows2 B w A ln gs) : ln.length = A.n ∧ gs.length = A.n' := ⟨(row_own h.one).1.ints.len, (row_own h.two).1.ints.len⟩
end
theorem append_ownS (B m : Nat) (v : Value) (ys : List Int) (a : Option Addr) (n cap : Nat) (xs : List Int) (w : World) (ho : w.ownsRow B 3 1 v m (intsV ys)) (hB : B ≤ w.heap.size) (hI : IntsAt w a n xs) (hs : m + n ≤ 4194304) :
    ∃ (a' : Option Addr) (c' : Nat) (w' : World), (Builtin.append_ #[26, 26] 26 #[v, .slice a n cap]).run Tryz.prog w = .ok (.slice a' (m + n) c') w' ∧ w'.ownsRow B 3 1 (.slice a' (m + n) c') (m + n) (intsV (ys ++ xs)) ∧ w.grownBy w' v.ownBlock ∧
      (∀ q, (Value.slice a' (m + n) c').ownBlock = some q → v.ownBlock = some q ∨ w.heap.size ≤ q) := by
  obtain ⟨i, hi, hz0, hz1, hz2⟩ := info_parts info3
  obtain ⟨av, cv, hv, _⟩ := own_of ho ys rfl
  subst hv
  have hcp := own_cap ho
  obtain ⟨hlen, h0⟩ := hI
  rcases Nat.eq_zero_or_pos n with rfl | hpos
  · have hx : xs = [] := List.length_eq_zero_iff.1 hlen
    subst hx
    refine ⟨av, cv, w, run_append_nothing w 26 26 26 3 i Tryz.underlying26 hi av m cv hcp _ ?_, by rw [List.append_nil]; exact ho, ⟨rfl, rfl, rfl, Nat.le_refl _, fun _ _ _ => rfl⟩, fun q e => .inl e⟩
    rcases a with _ | ad
    · exact Src.ofNil _ Tryz.underlying26 cap
    · exact Src.ofSlice _ Tryz.underlying26 ad 0 cap [] (by simp) (fun j u h => by simp at h) (fun u h => by cases h)
  · rcases h0 with h0 | ⟨b, off, rfl, hb, hcell⟩
    · omega
    · obtain ⟨g', c', w', hr, hown, hgrow, hl, _⟩ := run_append_lies (P := Tryz.prog) w 26 26 B 3 i (.int .i64 0) 1 8 Tryz.underlying26 hi hz0 hz1 hz2 rfl (by omega) _ m _ ho ⟨b, off, none⟩ n cap (xs.map (Value.int .i64)) (by simp [hlen])
        (fun j u h => by
          rw [Addr.add_lit]
          have hj : j < n := by
            have := (List.getElem?_eq_some_iff.1 h).1
            simpa [hlen] using this
          rw [hcell j hj]
          simp only [List.getElem?_map] at h
          rw [List.getElem?_eq_getElem (by omega)] at h
          simp only [Option.map_some, Option.some.injEq] at h
          rw [← h]
          simp [List.getD, List.getElem?_eq_getElem (show j < xs.length by omega)])
        (fun u hu => by obtain ⟨_, _, rfl⟩ := List.mem_map.1 hu; rfl) hpos (by unfold maxLen; omega) (by omega) hB _ rfl
      refine ⟨_, c', w', hr, by rw [← List.map_append] at hown; exact hown, hgrow, fun q e => ?_⟩
      have e' : g' = q := by simpa [Value.ownBlock] using e
      subst e'
      rcases hl with h | h
      · exact .inl h
      · right; omega
end Go.Proofs.YtdboaoejlkkoeaaGreat
