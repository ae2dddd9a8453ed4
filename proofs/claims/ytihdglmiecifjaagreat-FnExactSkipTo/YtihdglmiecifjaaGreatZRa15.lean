/-
  The specification's RingOk, as the laws ask for it.
  Walks of what copies a list of terms.
  Rows of messages, terms and subscribers: appended to; what they read as.
  The program's queue in memory, and walks of its small methods.
  Walks of the program's queue: who joins.
  Walks of the program's queue: made of a list, and looked at.
  Walks of the program's queue: who stands.
  Walks of the program's lists: a copy.
  Walks of the program's lists: a copy, and who is woken.
  Walks of the program's lines: LineOk, PlaceOf, Join, Leave, Wake.
  Walks of Wake, the specification's and the program's.
  The program's waiters: are a line and those that were told right?
-/
import Derived.Test.YtihdglmiecifjaaGreatZRa14
import Derived.Test.YtihdglmiecifjaaGreatZRa0
import Derived.Test.YtihdglmiecifjaaGreatZRa5
import Derived.Deep.Upon
import Derived.Deep.RegionHeld3
import Derived.Test.YtihdglmiecifjaaGreatZRa8
import Derived.Test.YtihdglmiecifjaaGreatZRa12
namespace Go.Proofs.YtihdglmiecifjaaGreat
open Go.RowKit Pl Il

theorem specRingOk_any : SpecRingOk (okR restR) := fun M v w hI hm _ _ => specRingOk_one M v w hI (hm.mono (by omega))
end Go.Proofs.YtihdglmiecifjaaGreat
namespace Go.Proofs.YtihdglmiecifjaaGreat
open Go.RowKit Pl Il

theorem infoFc : (Tryz.prog.info? 132).map (fun i => (i.zero, i.size, i.bytes)) = some (some (.agg #[.int .i64 0, .int .i64 0, .string ⟨#[]⟩]), 3, 32) := by kernel_rfl
theorem mod3 (j : Nat) : j % 3 = 0 ∨ j % 3 = 1 ∨ j % 3 = 2 := by omega
/-- Terms are appended to an own row. -/
theorem append_tms (B : Nat) (v : Value) (m : Nat) (ys : List Tm) (a : Option Addr) (n cap : Nat) (ts : List Tm) (w : World) (ho : w.ownsRow B 132 3 v m (qflat ys)) (hB : B ≤ w.heap.size) (hI : TmAt w a n ts) (hn : m + n ≤ 4194304) : ∃ (v' : Value) (w' : World),
    (Builtin.append_ #[39, 39] 39 #[v, .slice a n cap]).run Tryz.prog w = .ok v' w' ∧ w'.ownsRow B 132 3 v' (m + n) (qflat (ys ++ ts)) ∧ w.grownBy w' v.ownBlock := by
  obtain ⟨i, hi, hz0, hz1, hz2⟩ := info_parts infoFc
  obtain ⟨hlen, _, h0⟩ := hI
  rcases Nat.eq_zero_or_pos n with rfl | hpos
  · have hx : ts = [] := List.length_eq_zero_iff.1 hlen
    subst hx
    have hg : w.grownBy w v.ownBlock := ⟨rfl, rfl, rfl, Nat.le_refl _, fun _ _ _ => rfl⟩
    have hform : ∃ q c, v = .slice q m c ∧ m ≤ c := by
      obtain ⟨_, ⟨rfl, rfl⟩ | ⟨g, cp, cur, rfl, _, _, hc, _⟩⟩ := id ho
      · exact ⟨_, _, rfl, Nat.le_refl _⟩
      · exact ⟨_, _, rfl, hc⟩
    obtain ⟨q, c, rfl, hmc⟩ := hform
    refine ⟨_, _, run_append_nothing w 39 39 39 132 i Tryz.underlying39 hi q m c hmc _ ?_, by rw [Nat.add_zero, List.append_nil]; exact ho, hg⟩
    rcases a with _ | ad
    · exact Src.ofNil _ Tryz.underlying39 cap
    · exact Src.ofSlice _ Tryz.underlying39 ad 0 cap [] (by simp) (fun j u h => by simp at h) (fun u h => by cases h)
  · rcases h0 with h0 | ⟨b, off, rfl, hb, hcell⟩
    · omega
    · obtain ⟨g', c', w', hr, hown, hgrow, _, _⟩ := run_append_lies (P := Tryz.prog) w 39 39 B 132 i _ 3 32 Tryz.underlying39 hi hz0 hz1 hz2 rfl (by omega) v m _ ho ⟨b, off, none⟩ n cap (qflat ts) (by rw [length_qflat, hlen])
        (fun j u h => by
          rw [Addr.add_lit]
          have hj : j < n * 3 := by
            have := (List.getElem?_eq_some_iff.1 h).1
            rw [length_qflat, hlen] at this
            exact this
          obtain ⟨q1, q2, q3⟩ := hcell (j / 3) (by omega)
          have e := qflat_at ts (j / 3) (j % 3) (by omega) (by omega)
          have ej : j / 3 * 3 + j % 3 = j := by omega
          rw [ej, h] at e
          rcases mod3 j with hm | hm | hm
          · rw [hm] at e
            rw [show off + j = off + j / 3 * 3 by omega, q1]
            simpa [qC] using e.symm
          · rw [hm] at e
            rw [show off + j = off + j / 3 * 3 + 1 by omega, q2]
            simpa [qC] using e.symm
          · rw [hm] at e
            rw [show off + j = off + j / 3 * 3 + 2 by omega, q3]
            simpa [qC] using e.symm)
        (fun u hu => by
          simp only [qflat, List.mem_flatMap, qC, List.mem_cons, List.not_mem_nil, or_false] at hu
          obtain ⟨p, _, rfl | rfl | rfl⟩ := hu <;> rfl) hpos (by unfold maxLen; omega) (by omega) hB _ rfl
      exact ⟨_, w', hr, by rw [qflat_append]; exact hown, hgrow⟩

theorem copiedF_any (a : Option Addr) (n cap : Nat) (ts : List Tm) (w : World) (hI : TmAt w a n ts) (hn : n ≤ 2097152) :
    Calls Tryz.prog 168 #[.slice a n cap] w fun e w' => ∃ a' c', e = .returned (.slice a' n c') ∧ w'.ownsRow w.heap.size 132 3 (.slice a' n c') n (qflat ts) ∧ Below w.heap.size w w' := by
  obtain ⟨v, w', hr, ho, hg⟩ := append_tms w.heap.size (.slice none 0 0) 0 [] a n cap ts w (World.ownsRow_nil _ _ _ _) (Nat.le_refl _) hI (by omega)
  rw [Nat.zero_add, List.nil_append] at ho
  have hb : Below w.heap.size w w' := (Below.refl _ _).grown hg (Nat.le_refl _) (fun k hk => by cases hk)
  obtain ⟨a', c', rfl, _, _⟩ := ownF_of ho ts rfl hI.short
  have Hr := hidOf hr
  have HO := hidOf ho
  clear hr ho hI hg
  go_enter Tryz.func168, Tryz.ntmps168
  go_wp2_with (at_builtin; refine wpList_append_run rfl _ _ 39 rfl _ _ _ rfl rfl Hr.out ?_)
  go_ret
  exact ⟨_, _, rfl, HO.out, hb⟩

theorem own_farF {B : Nat} {w : World} {v : Value} {n : Nat} {t : TypeId} {xs : List Value} (h : w.ownsRow B t 3 v n xs) (b o : Nat) (hb : b < B) (x : Value) : (w.setCell ⟨b, o, none⟩ x).ownsRow B t 3 v n xs := by
  refine h.kept (row := some b) ⟨rfl, rfl, rfl, by simp, fun k _ hk => Below.heap_setCell _ _ _ _ (by rintro rfl; exact hk rfl)⟩ ?_
  cases e : v.ownBlock with
  | none => exact .inl rfl
  | some q => exact .inr (fun e' => by cases e'; have := (h.lt _ e).1; omega)
end Go.Proofs.YtihdglmiecifjaaGreat
namespace Go.Proofs.YtihdglmiecifjaaGreat
open Go.RowKit Pl Il

theorem rinfoM : (Tryz.prog.info? 30).map (fun i => (i.zero, i.size, i.bytes)) = some (some (.agg #[.int .i64 0, .int .i64 0, .string ⟨#[]⟩]), 3, 32) := by kernel_rfl
theorem rinfoS : (Tryz.prog.info? 41).map (fun i => (i.zero, i.size, i.bytes)) = some (some (.agg #[.int .i64 0, .int .i64 0, .int .i64 0, .int .i64 0, .int .i64 0, .int .i64 0, .slice none 0 0]), 7, 72) := by kernel_rfl
/-- Elements of any size are appended to an own row. -/
theorem append_gen {E SL : TypeId} {z : Value} {sz by' : Nat} (hu : Tryz.prog.underlying SL = some (.slice E)) (hinf : (Tryz.prog.info? E).map (fun i => (i.zero, i.size, i.bytes)) = some (some z, sz, by')) (hzs : z.cells.size = sz) (hs0 : 0 < sz) (hby : by' ≤ 1000)
    (B m : Nat) (v : Value) (ys : List Value) (a : Option Addr) (n cap : Nat) (news : List Value) (w : World) (ho : w.ownsRow B E sz v m ys) (hB : B ≤ w.heap.size) (hl : news.length = n * sz)
    (hsrc : n = 0 ∨ ∃ b off, a = some ⟨b, off, none⟩ ∧ ∀ j u, news[j]? = some u → w.cell? ⟨b, off + j, none⟩ = some u) (h1 : ∀ u ∈ news, u.oneCell' = true) (hn : m + n ≤ 4194304) :
    ∃ (a' : Option Addr) (c' : Nat) (w' : World), (Builtin.append_ #[SL, SL] SL #[v, .slice a n cap]).run Tryz.prog w = .ok (.slice a' (m + n) c') w' ∧ w'.ownsRow B E sz (.slice a' (m + n) c') (m + n) (ys ++ news) ∧ w.grownBy w' v.ownBlock ∧
      (∀ q, (Value.slice a' (m + n) c').ownBlock = some q → v.ownBlock = some q ∨ w.heap.size ≤ q) := by
  obtain ⟨i, hi, hz0, hz1, hz2⟩ := info_parts hinf
  have hform : ∃ q c, v = .slice q m c ∧ m ≤ c := by
    obtain ⟨_, ⟨rfl, rfl⟩ | ⟨g, cp, cur, rfl, _, _, hc, _⟩⟩ := id ho
    · exact ⟨_, _, rfl, Nat.le_refl _⟩
    · exact ⟨_, _, rfl, hc⟩
  obtain ⟨av, cv, rfl, hcp⟩ := hform
  rcases Nat.eq_zero_or_pos n with rfl | hpos
  · have hx : news = [] := List.length_eq_zero_iff.1 (by simpa using hl)
    subst hx
    refine ⟨av, cv, w, run_append_nothing w SL SL SL E i hu hi av m cv hcp _ ?_, by rw [List.append_nil]; exact ho, ⟨rfl, rfl, rfl, Nat.le_refl _, fun _ _ _ => rfl⟩, fun q e => .inl e⟩
    rcases a with _ | ad
    · exact Src.ofNil _ hu cap
    · exact Src.ofSlice _ hu ad 0 cap [] (by simp) (fun j u h => by simp at h) (fun u h => by cases h)
  · rcases hsrc with h0 | ⟨b, off, rfl, hcell⟩
    · omega
    · have hby2 : (m + n) * by' ≤ 140737488355328 := Nat.le_trans (Nat.mul_le_mul hn hby) (by omega)
      obtain ⟨g', c', w', hr, hown, hgrow, hlz, _⟩ := run_append_lies (P := Tryz.prog) w SL SL B E i z sz by' hu hi hz0 hz1 hz2 hzs hs0 _ m _ ho ⟨b, off, none⟩ n cap news hl
        (fun j u h => by rw [Addr.add_lit]; exact hcell j u h) h1 hpos (by unfold maxLen; omega) hby2 hB _ rfl
      refine ⟨_, c', w', hr, hown, hgrow, fun q e => ?_⟩
      have e' : g' = q := by simpa [Value.ownBlock] using e
      subst e'
      rcases hlz with h | h
      · exact .inl h
      · right; omega
theorem one_qflat (ts : List Tm) : ∀ u ∈ qflat ts, u.oneCell' = true := fun u hu => by
  simp only [qflat, List.mem_flatMap, qC, List.mem_cons, List.not_mem_nil, or_false] at hu
  obtain ⟨p, _, rfl | rfl | rfl⟩ := hu <;> rfl
theorem TmAt.src {w : World} {a : Option Addr} {n : Nat} {ts : List Tm} (h : TmAt w a n ts) : n = 0 ∨ ∃ b off, a = some ⟨b, off, none⟩ ∧ ∀ j u, (qflat ts)[j]? = some u → w.cell? ⟨b, off + j, none⟩ = some u := by
  rcases h.row with k | ⟨b, off, rfl, _, hcell⟩
  · exact .inl k
  · refine .inr ⟨b, off, rfl, fun j u hju => ?_⟩
    have hj : j < n * 3 := by
      have := (List.getElem?_eq_some_iff.1 hju).1
      rw [length_qflat, h.len] at this
      exact this
    obtain ⟨q1, q2, q3⟩ := hcell (j / 3) (by omega)
    have e := qflat_at ts (j / 3) (j % 3) (by have := h.len; omega) (by omega)
    have ej : j / 3 * 3 + j % 3 = j := by omega
    rw [ej, hju] at e
    rcases mod3 j with hm | hm | hm
    · rw [hm] at e
      rw [show off + j = off + j / 3 * 3 by omega, q1]
      simpa [qC] using e.symm
    · rw [hm] at e
      rw [show off + j = off + j / 3 * 3 + 1 by omega, q2]
      simpa [qC] using e.symm
    · rw [hm] at e
      rw [show off + j = off + j / 3 * 3 + 2 by omega, q3]
      simpa [qC] using e.symm
/-- Messages, terms are appended. -/
theorem append_msgR (B m : Nat) (v : Value) (ys : List Tm) (a : Option Addr) (n cap : Nat) (ts : List Tm) (w : World) (ho : w.ownsRow B 30 3 v m (qflat ys)) (hB : B ≤ w.heap.size) (hI : TmAt w a n ts) (hn : m + n ≤ 4194304) :
    ∃ (a' : Option Addr) (c' : Nat) (w' : World), (Builtin.append_ #[24, 24] 24 #[v, .slice a n cap]).run Tryz.prog w = .ok (.slice a' (m + n) c') w' ∧ w'.ownsRow B 30 3 (.slice a' (m + n) c') (m + n) (qflat (ys ++ ts)) ∧ w.grownBy w' v.ownBlock ∧
      (∀ q, (Value.slice a' (m + n) c').ownBlock = some q → v.ownBlock = some q ∨ w.heap.size ≤ q) := by
  rw [qflat_append]
  exact append_gen Tryz.underlying24 rinfoM rfl (by omega) (by omega) B m v _ a n cap (qflat ts) w ho hB (by rw [length_qflat, hI.len]) hI.src (one_qflat ts) hn
theorem append_tmR (B m : Nat) (v : Value) (ys : List Tm) (a : Option Addr) (n cap : Nat) (ts : List Tm) (w : World) (ho : w.ownsRow B 132 3 v m (qflat ys)) (hB : B ≤ w.heap.size) (hI : TmAt w a n ts) (hn : m + n ≤ 4194304) :
    ∃ (a' : Option Addr) (c' : Nat) (w' : World), (Builtin.append_ #[39, 39] 39 #[v, .slice a n cap]).run Tryz.prog w = .ok (.slice a' (m + n) c') w' ∧ w'.ownsRow B 132 3 (.slice a' (m + n) c') (m + n) (qflat (ys ++ ts)) ∧ w.grownBy w' v.ownBlock ∧
      (∀ q, (Value.slice a' (m + n) c').ownBlock = some q → v.ownBlock = some q ∨ w.heap.size ≤ q) := by
  rw [qflat_append]
  exact append_gen Tryz.underlying39 infoFc rfl (by omega) (by omega) B m v _ a n cap (qflat ts) w ho hB (by rw [length_qflat, hI.len]) hI.src (one_qflat ts) hn
/-- Subscribers as a row of cells. -/
def sflat (xs : List Sa) : List Value := xs.flatMap sC
theorem length_sflat (l : List Sa) : (sflat l).length = l.length * 7 := by
  induction l with
  | nil => rfl
  | cons x l ih => simp [sflat, sC] at ih ⊢; omega
theorem sflat_at : ∀ (l : List Sa) (i r : Nat), i < l.length → r < 7 → (sflat l)[i * 7 + r]? = (sC (sg l i))[r]?
  | [], i, r, hi, _ => by simp at hi
  | x :: l, 0, r, _, hr => by
    have e : sflat (x :: l) = sC x ++ sflat l := by simp [sflat]
    rw [e, List.getElem?_append_left (by simp; omega)]
    simp [sg]
  | x :: l, i + 1, r, hi, hr => by
    have e : sflat (x :: l) = sC x ++ sflat l := by simp [sflat]
    have hc : (sC x).length = 7 := rfl
    rw [e, List.getElem?_append_right (by rw [hc]; omega), hc, show (i + 1) * 7 + r - 7 = i * 7 + r by omega, sflat_at l i r (by simpa using hi) hr]
    simp [sg]
theorem sflat_append (l m : List Sa) : sflat (l ++ m) = sflat l ++ sflat m := by simp [sflat]
theorem one_sflat (xs : List Sa) : ∀ u ∈ sflat xs, u.oneCell' = true := fun u hu => by
  simp only [sflat, List.mem_flatMap, List.mem_cons, List.not_mem_nil, or_false] at hu
  obtain ⟨p, _, rfl | rfl | rfl | rfl | rfl | rfl | rfl⟩ := hu <;> rfl
theorem SCell.at {w : World} {b o : Nat} {x : Sa} (h : SCell w b o x) {r : Nat} (hr : r < 7) : w.cell? ⟨b, o + r, none⟩ = (sC x)[r]? := by
  rcases (show r = 0 ∨ r = 1 ∨ r = 2 ∨ r = 3 ∨ r = 4 ∨ r = 5 ∨ r = 6 by omega) with rfl | rfl | rfl | rfl | rfl | rfl | rfl
  · exact h.c0
  · exact h.c1
  · exact h.c2
  · exact h.c3
  · exact h.c4
  · exact h.c5
  · exact h.c6
theorem SubAt.src {w : World} {a : Option Addr} {n : Nat} {xs : List Sa} (h : SubAt w a n xs) : n = 0 ∨ ∃ b off, a = some ⟨b, off, none⟩ ∧ ∀ j u, (sflat xs)[j]? = some u → w.cell? ⟨b, off + j, none⟩ = some u := by
  rcases h.row with k | ⟨b, off, rfl, _, hcell⟩
  · exact .inl k
  · refine .inr ⟨b, off, rfl, fun j u hju => ?_⟩
    have hj : j < n * 7 := by
      have := (List.getElem?_eq_some_iff.1 hju).1
      rw [length_sflat, h.len] at this
      exact this
    have hc := (hcell (j / 7) (by omega)).at (r := j % 7) (by omega)
    have e := sflat_at xs (j / 7) (j % 7) (by have := h.len; omega) (by omega)
    have ej : j / 7 * 7 + j % 7 = j := by omega
    rw [ej, hju] at e
    rw [show off + j = off + j / 7 * 7 + j % 7 by omega, hc, ← e]
theorem append_subR (B m : Nat) (v : Value) (ys : List Sa) (a : Option Addr) (n cap : Nat) (xs : List Sa) (w : World) (ho : w.ownsRow B 41 7 v m (sflat ys)) (hB : B ≤ w.heap.size) (hI : SubAt w a n xs) (hn : m + n ≤ 4194304) :
    ∃ (a' : Option Addr) (c' : Nat) (w' : World), (Builtin.append_ #[25, 25] 25 #[v, .slice a n cap]).run Tryz.prog w = .ok (.slice a' (m + n) c') w' ∧ w'.ownsRow B 41 7 (.slice a' (m + n) c') (m + n) (sflat (ys ++ xs)) ∧ w.grownBy w' v.ownBlock ∧
      (∀ q, (Value.slice a' (m + n) c').ownBlock = some q → v.ownBlock = some q ∨ w.heap.size ≤ q) := by
  rw [sflat_append]
  exact append_gen Tryz.underlying25 rinfoS rfl (by omega) (by omega) B m v _ a n cap (sflat xs) w ho hB (by rw [length_sflat, hI.len]) hI.src (one_sflat xs) hn
/-- What an own row of subscribers reads as. -/
theorem rowS {B : Nat} {w : World} {t : TypeId} {a : Option Addr} {n c : Nat} {xs : List Sa} (h : w.ownsRow B t 7 (.slice a n c) n (sflat xs)) : xs.length = n ∧ n ≤ c ∧ (n = 0 ∨ ∃ b, a = some ⟨b, 0, none⟩ ∧ B ≤ b ∧ b < w.heap.size ∧ (∀ o, w.frozen? ⟨b, o, none⟩ = false) ∧ ∀ i, i < n → SCell w b (0 + i * 7) (sg xs i)) := by
  have hlen : xs.length = n := by have := h.1; rw [length_sflat] at this; omega
  obtain ⟨hl, ⟨e, rfl⟩ | ⟨g, cap, cur, e, hB, hg, hc, hm, _, ht⟩⟩ := id h
  · cases e
    exact ⟨hlen, Nat.le_refl _, .inl rfl⟩
  · cases e
    have hlt : g < w.heap.size := by
      rcases Nat.lt_or_ge g w.heap.size with k | k
      · exact k
      · rw [Array.getElem?_eq_none k] at hg; cases hg
    refine ⟨hlen, hc, .inr ⟨g, rfl, hB, hlt, fun o => by simp [World.frozen?, hg], fun i hi => ?_⟩⟩
    have key : ∀ r, r < 7 → w.cell? ⟨g, i * 7 + r, none⟩ = (sC (sg xs i))[r]? := fun r hr => by
      rw [h.cellAt (i * 7 + r) (by omega), sflat_at xs i r (by omega) hr]
    rw [Nat.zero_add]
    exact ⟨key 0 (by omega), key 1 (by omega), key 2 (by omega), key 3 (by omega), key 4 (by omega), key 5 (by omega), key 6 (by omega)⟩
end Go.Proofs.YtihdglmiecifjaaGreat
namespace Go.Proofs.YtihdglmiecifjaaGreat
open Go.RowKit Go.Maps Pl Il

theorem law3 : Keyed Tryz.prog 3 := int_keyed Tryz.underlying3
theorem zero3 (w : World) : (zeroValue 3).run Tryz.prog w = .ok (.int .i64 0) w := by kernel_rfl

/-- The parts of a queue in memory: its own block qb, the row of those who came (cv), the map of places (block mb, at most n entries, reading as D). -/
structure QMem (B : Nat) (w : World) (qb mb : Nat) (cv : Value) (D : DataW Unit) (n : Nat) (xs : List Int) : Prop where
  blk : w.heap[qb]? = some (.cells #[cv, .map (some mb)] 169 (0, 0))
  row : w.ownsRow B 3 1 cv xs.length (xs.map (Value.int .i64))
  map : w.ownsMap Tryz.prog 3 (plainElem Tryz.prog 3) mb n D
  ge : B ≤ qb
  ge' : B ≤ mb
structure QParts (B : Nat) (w : World) (qb mb : Nat) (cv : Value) (D : DataW Unit) (xs gone : List Int) : Prop where
  mem : QMem B w qb mb cv D xs.length xs
  rd : Reads D xs gone
/-- A queue at block qb: xs came, gone have left. -/
def QAt (B : Nat) (w : World) (qb : Nat) (xs gone : List Int) : Prop := ∃ mb cv D, QParts B w qb mb cv D xs gone

section
variable {B : Nat} {w : World} {qb mb n : Nat} {cv : Value} {D : DataW Unit} {xs gone : List Int}
theorem QMem.lt (h : QMem B w qb mb cv D n xs) : qb < w.heap.size := by
  rcases Nat.lt_or_ge qb w.heap.size with k | k
  · exact k
  · have := h.blk
    rw [Array.getElem?_eq_none k] at this; cases this
theorem QMem.size (h : QMem B w qb mb cv D n xs) : B ≤ w.heap.size := Nat.le_trans h.ge (Nat.le_of_lt h.lt)
theorem QMem.c0 (h : QMem B w qb mb cv D n xs) : w.cell? ⟨qb, 0, none⟩ = some cv := by simp [World.cell?, h.blk]
theorem QMem.c1 (h : QMem B w qb mb cv D n xs) : w.cell? ⟨qb, 1, none⟩ = some (.map (some mb)) := by simp [World.cell?, h.blk]
theorem QMem.f0 (h : QMem B w qb mb cv D n xs) : w.frozen? ⟨qb, 0, none⟩ = false := by simp [World.frozen?, h.blk]
theorem QMem.ne (h : QMem B w qb mb cv D n xs) : mb ≠ qb := by
  obtain ⟨es, clock, hb, _⟩ := h.map
  rintro rfl
  rw [h.blk] at hb; cases hb
theorem QMem.rowQ (h : QMem B w qb mb cv D n xs) : cv.ownBlock ≠ some qb := by
  intro e
  obtain ⟨_, ⟨rfl, _⟩ | ⟨g, cap, cur, rfl, _, hg, _⟩⟩ := h.row
  · cases e
  · simp [Value.ownBlock] at e
    subst e
    rw [h.blk] at hg
    simp at hg
theorem QMem.rowM (h : QMem B w qb mb cv D n xs) : cv.ownBlock ≠ some mb := by
  intro e
  obtain ⟨es, clock, hb, _⟩ := h.map
  obtain ⟨_, ⟨rfl, _⟩ | ⟨g, cap, cur, rfl, _, hg, _⟩⟩ := h.row
  · cases e
  · simp [Value.ownBlock] at e
    subst e
    rw [hb] at hg
    cases hg
theorem QMem.form (h : QMem B w qb mb cv D n xs) : ∃ a c, cv = .slice a xs.length c ∧ IntsAt w a xs.length xs := by
  obtain ⟨a, c, e, ho⟩ := own_of h.row xs rfl
  exact ⟨a, c, e, ho.ints⟩
theorem QMem.keep {w' : World} (h : QMem B w qb mb cv D n xs) (hb : Below w.heap.size w w') : QMem B w' qb mb cv D n xs := by
  have hg : w.grownBy w' none := ⟨hb.os, hb.tape, hb.output, hb.size, fun k hk _ => hb.block k hk⟩
  exact ⟨by rw [hb.block qb h.lt]; exact h.blk, h.row.kept hg (by cases cv.ownBlock <;> simp), h.map.kept hg (by simp), h.ge, h.ge'⟩
theorem QAt.keep {w' : World} (h : QAt B w qb xs gone) (hb : Below w.heap.size w w') : QAt B w' qb xs gone := by
  obtain ⟨mb, cv, D, h⟩ := h
  exact ⟨mb, cv, D, h.mem.keep hb, h.rd⟩
theorem QMem.mapped {w' : World} {D' : DataW Unit} {n' : Nat} (h : QMem B w qb mb cv D n xs) (hm : w'.ownsMap Tryz.prog 3 (plainElem Tryz.prog 3) mb n' D') (hg : w.grownBy w' (some mb)) : QMem B w' qb mb cv D' n' xs :=
  ⟨by rw [hg.block qb h.lt (by intro e; cases e; exact h.ne rfl)]; exact h.blk, h.row.kept hg (.inr h.rowM), hm, h.ge, h.ge'⟩
theorem QParts.has (h : QParts B w qb mb cv D xs gone) (x : Int) : Maps.has D (.int .i64 x) = (placeG xs gone x).isSome := h.rd.has x
theorem QParts.at (h : QParts B w qb mb cv D xs gone) {x c : Int} (hat : D.atKey (.int .i64 x) (.lit (.int .i64 0)) = .lit (.int .i64 c)) : c = ((placeG xs gone x).getD 0 : Nat) := by
  cases hp : placeG xs gone x with
  | none =>
    have := h.rd.has x
    rw [hp] at this
    rw [atKey_of_not_has this] at hat
    injection hat with hat
    injection hat with _ hat
    simp [← hat]
  | some i =>
    rw [h.rd.val x i hp] at hat
    injection hat with hat
    injection hat with _ hat
    simp [← hat]
end

theorem placeOf_any (B qb : Nat) (xs gone : List Int) (x : Int) (w : World) (hQ : QAt B w qb xs gone) (hx : (Lit.int .i64 x).wf = true) :
    Calls Tryz.prog 189 #[.pointer (some ⟨qb, 0, none⟩), .int .i64 x] w fun e w' => e = .returned (.tuple #[.int .i64 ((placeG xs gone x).getD 0 : Nat), .bool (placeG xs gone x).isSome]) ∧ w' = w := by
  obtain ⟨mb, cv, D, hq⟩ := hQ
  have hkey := keyOf_int_mk Tryz.underlying3 hx
  have c1 := hq.mem.c1
  have hown := hq.mem.map
  have hh := hq.has x
  have hv := fun c => hq.at (x := x) (c := c)
  have HV := hidOf hv
  have HH := hidOf hh
  clear hq hv hh
  go_enter Tryz.func189, Tryz.ntmps189
  go_wp2_with (first
    | (at_lookup; refine wpList_lookup_own_ok_int _ rfl _ _ 167 rfl 3 3 .i64 law3 Tryz.underlying167 Tryz.underlying3 (zero3 _) mb _ D rfl hown _ _ rfl hkey ?_; intro c hat hwc)
    | go_in)
  go_ret2
  rw [HV.out c hat, HH.out]
  exact ⟨rfl, rfl⟩
theorem leave_parts (B qb mb : Nat) (cv : Value) (D : DataW Unit) (xs gone : List Int) (x : Int) (w : World) (hq : QParts B w qb mb cv D xs gone) (hx : (Lit.int .i64 x).wf = true) :
    Calls Tryz.prog 187 #[.pointer (some ⟨qb, 0, none⟩), .int .i64 x] w fun e w' => e = .returned (.tuple #[]) ∧ QParts B w' qb mb cv (D.del (.int .i64 x)) xs (gone ++ [x]) ∧ w.grownBy w' (some mb) := by
  have hkey := keyOf_int_mk Tryz.underlying3 hx
  have c1 := hq.mem.c1
  have hown := hq.mem.map
  have HQ := hidOf hq
  clear hq
  go_enter Tryz.func187, Tryz.ntmps187
  go_wp2_with (first
    | (at_delete; refine wpList_delete_own _ rfl _ _ 167 3 rfl 3 law3 Tryz.underlying167 _ mb _ D rfl hown _ _ rfl hkey ?_; intro w1 hown1 hturn1)
    | go_in)
  go_end0
  exact ⟨rfl, ⟨HQ.out.mem.mapped hown1 hturn1.grown, HQ.out.rd.leave⟩, hturn1.grown⟩
theorem leave_any (B qb : Nat) (xs gone : List Int) (x : Int) (w : World) (hQ : QAt B w qb xs gone) (hx : (Lit.int .i64 x).wf = true) :
    Calls Tryz.prog 187 #[.pointer (some ⟨qb, 0, none⟩), .int .i64 x] w fun e w' => e = .returned (.tuple #[]) ∧ QAt B w' qb xs (gone ++ [x]) ∧ Below B w w' := by
  obtain ⟨mb, cv, D, hq⟩ := hQ
  refine (leave_parts B qb mb cv D xs gone x w hq hx).mono ?_
  rintro e w1 ⟨rfl, h1, hg⟩
  exact ⟨rfl, ⟨mb, cv, _, h1⟩, (Below.refl _ _).grown hg hq.mem.size (fun k hk => by cases hk; exact hq.mem.ge')⟩
end Go.Proofs.YtihdglmiecifjaaGreat
namespace Go.Proofs.YtihdglmiecifjaaGreat
open Go.RowKit Go.Maps Pl Il

theorem QMem.appended {B : Nat} {w w' : World} {qb mb g c n : Nat} {cv : Value} {D : DataW Unit} {xs : List Int} {x : Int} (h : QMem B w qb mb cv D n xs) (hr : w'.ownsRow B 3 1 (.slice (some ⟨g, 0, none⟩) (xs.length + 1) c) (xs.length + 1) ((xs ++ [x]).map (Value.int .i64)))
    (hg : w.grownBy w' cv.ownBlock) (hl : cv.ownBlock = some g ∨ w.heap.size ≤ g) :
    QMem B (w'.setCell ⟨qb, 0, none⟩ (.slice (some ⟨g, 0, none⟩) (xs.length + 1) c)) qb mb (.slice (some ⟨g, 0, none⟩) (xs.length + 1) c) D n (xs ++ [x]) := by
  have hq : w'.heap[qb]? = some (.cells #[cv, .map (some mb)] 169 (0, 0)) := by
    rw [hg.block qb h.lt (fun e => h.rowQ e.symm)]; exact h.blk
  have hgq : g ≠ qb := by
    rcases hl with hl | hl
    · intro e; subst e; exact h.rowQ hl
    · have := h.lt; omega
  have hm := (h.map.kept hg (fun e => h.rowM e.symm)).setCell (a := ⟨qb, 0, none⟩) h.ne (.slice (some ⟨g, 0, none⟩) (xs.length + 1) c)
  have hs : w'.grownBy (w'.setCell ⟨qb, 0, none⟩ (.slice (some ⟨g, 0, none⟩) (xs.length + 1) c)) (some qb) := ⟨rfl, rfl, rfl, by simp, fun k _ hk => Below.heap_setCell _ _ _ _ (by rintro rfl; exact hk rfl)⟩
  refine ⟨?_, ?_, hm, h.ge, h.ge'⟩
  · have hlt : qb < w'.heap.size := by
      rcases Nat.lt_or_ge qb w'.heap.size with k | k
      · exact k
      · rw [Array.getElem?_eq_none k] at hq; cases hq
    have hq' : w'.heap[qb] = .cells #[cv, .map (some mb)] 169 (0, 0) := by
      rw [Array.getElem?_eq_getElem hlt] at hq
      exact Option.some.inj hq
    simp [World.setCell, Array.getElem_modify, hlt, hq']
  · have := hr.kept hs (.inr (by simp [Value.ownBlock]; exact hgq))
    simpa using this

theorem QMem.mono {B : Nat} {w : World} {qb mb n n' : Nat} {cv : Value} {D : DataW Unit} {xs : List Int} (h : QMem B w qb mb cv D n xs) (hn : n ≤ n') : QMem B w qb mb cv D n' xs := ⟨h.blk, h.row, h.map.mono hn, h.ge, h.ge'⟩
/-- What is needed of the world at the walk's last store. -/
theorem QMem.ready {B : Nat} {w : World} {qb mb n : Nat} {cv : Value} {D : DataW Unit} {xs : List Int} (x : Int) (h : QMem B w qb mb cv D n xs) (hn : xs.length ≤ 2097152) : ∃ (g c : Nat) (w' : World),
    (Builtin.append_ #[26, 26] 26 #[cv, .slice (some ⟨w.heap.size, 0, none⟩) 1 1]).run Tryz.prog (w.alloc (.cells #[.int .i64 x] 3)) = .ok (.slice (some ⟨g, 0, none⟩) (xs.length + 1) c) w' ∧
    QMem B (w'.setCell ⟨qb, 0, none⟩ (.slice (some ⟨g, 0, none⟩) (xs.length + 1) c)) qb mb (.slice (some ⟨g, 0, none⟩) (xs.length + 1) c) D n (xs ++ [x]) ∧
    Below B w (w'.setCell ⟨qb, 0, none⟩ (.slice (some ⟨g, 0, none⟩) (xs.length + 1) c)) ∧ w'.cell? ⟨qb, 0, none⟩ = some cv ∧ w'.frozen? ⟨qb, 0, none⟩ = false := by
  obtain ⟨g, c, w', hr, ho, hg, hl⟩ := append_own1 B xs.length cv xs x w h.row h.size (by omega)
  refine ⟨g, c, w', hr, h.appended ho hg hl, ((Below.refl _ _).grown hg h.size (fun k hk => (h.row.lt k hk).1)).setCell (p := ⟨qb, 0, none⟩) h.ge _, ?_, ?_⟩
  · rw [← h.c0]; exact World.cell?_of_block (hg.block qb h.lt (fun e => h.rowQ e.symm))
  · rw [← h.f0]; exact World.frozen?_of_block (hg.block qb h.lt (fun e => h.rowQ e.symm))

theorem join_any (B qb : Nat) (xs : List Int) (x : Int) (w : World) (hQ : QAt B w qb xs []) (hx : (Lit.int .i64 x).wf = true) (hn : xs.length ≤ 2097152) :
    Calls Tryz.prog 178 #[.pointer (some ⟨qb, 0, none⟩), .int .i64 x] w fun e w' => e = .returned (.tuple #[]) ∧ QAt B w' qb (xs ++ [x]) [] ∧ Below B w w' := by
  obtain ⟨mb, cv, D, hq⟩ := hQ
  have hkey := keyOf_int_mk Tryz.underlying3 hx
  have c0 := hq.mem.c0
  have c1 := hq.mem.c1
  have hown := hq.mem.map
  have hh := hq.has x
  rw [place_isSome] at hh
  cases hhas : hasL xs x
  · rw [hhas] at hh
    obtain ⟨a, ca, rfl, _⟩ := hq.mem.form
    have hwl : (Lit.int .i64 (xs.length : Int)).wf = true := WalkArith.wf_i64 (by omega)
    obtain ⟨w1, hrun, hown1, hturn1⟩ := World.ownsMap.store (t := 167) (e := 3) hown.drew law3 Tryz.underlying167 (by unfold maxLen; omega) hkey (plainElem_int Tryz.underlying3 hwl)
    have hM1 := (hq.mem.keep (Below.refl _ w).drew).mapped hown1 hturn1.grown
    have hb1 : Below B w w1 := (Below.refl _ w).drew.grown hturn1.grown hq.mem.size (fun k hk => by cases hk; exact hq.mem.ge')
    have hrd := hq.rd.join_new (hown.tidy law3) hhas
    obtain ⟨g, c, w', hr, hP, hb, c0', f0'⟩ := hM1.ready x hn
    have d0 := hM1.c0
    have d1 := hM1.c1
    have Hr := hidOf hr
    have HP := hidOf hP
    have hb2 := hb1.trans hb
    clear hr hP hq hown1 hturn1 hM1 hb1 hb
    go_enter Tryz.func178, Tryz.ntmps178
    go_wp2_with (first
      | (at_lookup; refine wpList_lookup_own_ok_int _ rfl _ _ 167 rfl 3 3 .i64 law3 Tryz.underlying167 Tryz.underlying3 (zero3 _) mb _ D rfl hown _ _ rfl hkey ?_; intro c0 hat hwc)
      | go_in)
    go_region_with (fail)
    all_goals go_wp2_with (first
      | (at_builtin; refine wpList_append_run rfl _ _ 26 rfl _ _ _ rfl rfl Hr.out ?_)
      | go_in)
    all_goals go_end0
    all_goals exact ⟨rfl, ⟨mb, _, _, HP.out.mono (by simp), hrd⟩, hb2⟩
  · rw [hhas] at hh
    obtain ⟨g, c, w', hr, hP, hb, c0', f0'⟩ := hq.mem.ready x hn
    have hrd := hq.rd.join_old hhas
    obtain ⟨a, ca, rfl, _⟩ := hq.mem.form
    have Hr := hidOf hr
    have HP := hidOf hP
    clear hr hP hq
    go_enter Tryz.func178, Tryz.ntmps178
    go_wp2_with (first
      | (at_lookup; refine wpList_lookup_own_ok_int _ rfl _ _ 167 rfl 3 3 .i64 law3 Tryz.underlying167 Tryz.underlying3 (zero3 _) mb _ D rfl hown _ _ rfl hkey ?_; intro c0 hat hwc)
      | (at_builtin; refine wpList_append_run rfl _ _ 26 rfl _ _ _ rfl rfl Hr.out ?_)
      | go_in)
    go_end0
    exact ⟨rfl, ⟨mb, _, _, HP.out.mono (by simp), hrd⟩, hb⟩
end Go.Proofs.YtihdglmiecifjaaGreat
namespace Go.Proofs.YtihdglmiecifjaaGreat
open Go.RowKit Go.Maps Pl Il

theorem QAt.new (w : World) : QAt w.heap.size ((w.alloc (.map #[] 0)).alloc (.cells #[.slice none 0 0, .map (some w.heap.size)] 169 (0, 0))) (w.heap.size + 1) [] [] := by
  refine ⟨w.heap.size, .slice none 0 0, .map [], ⟨?_, ⟨rfl, .inl ⟨rfl, rfl⟩⟩, ?_, by omega, Nat.le_refl _⟩, Reads.empty⟩
  · have := heap_alloc_new (w.alloc (.map #[] 0)) (.cells #[.slice none 0 0, .map (some w.heap.size)] 169 (0, 0))
    simpa using this
  · exact (World.ownsMap_made w _ _ _).alloc _

theorem queueOf_any (a : Option Addr) (n cap : Nat) (xs : List Int) (w : World) (hI : IntsAt w a n xs) (hn : n ≤ 2097152) (hw : wfL xs) :
    Calls Tryz.prog 154 #[.slice a n cap] w fun e w' => ∃ qb, e = .returned (.pointer (some ⟨qb, 0, none⟩)) ∧ QAt w.heap.size w' qb xs [] ∧ Below w.heap.size w w' := by
  have hmm := @run_makeMap Tryz.prog
  have hS := QAt.new w
  have hbS : Below w.heap.size w ((w.alloc (.map #[] 0)).alloc (.cells #[.slice none 0 0, .map (some w.heap.size)] 169 (0, 0))) := bl_alloc (bl_alloc (Below.refl _ _) _) _
  obtain ⟨hlen, rfl | ⟨b, off, rfl, hb, hcell⟩⟩ := hI
  · have hx : xs = [] := List.length_eq_zero_iff.1 hlen
    subst hx
    go_enter Tryz.func154, Tryz.ntmps154
    go_wp2
    go_loopw [11] (fun i wr => i = .int .i64 0 ∧ QAt w.heap.size wr (w.heap.size + 1) [] [] ∧ Below w.heap.size w wr) (fun _ _ => 0)
    case atStart => exact ⟨rfl, hS, hbS⟩
    case round =>
      obtain ⟨rfl, hq, hbr⟩ := hrel
      go_wp2
      go_ret
      exact ⟨_, rfl, hq, hbr⟩
  · go_enter Tryz.func154, Tryz.ntmps154
    go_wp2
    go_loopw [11] (fun i wr => ∃ k : Nat, k ≤ n ∧ i = .int .i64 k ∧ QAt w.heap.size wr (w.heap.size + 1) (xs.take k) [] ∧ Below w.heap.size w wr) (fun i _ => n - (intOf i).toNat)
    case atStart => exact ⟨0, Nat.zero_le _, rfl, hS, hbS⟩
    case round =>
      rename_i wr
      obtain ⟨k, hk, rfl, hq, hbr⟩ := hrel
      clear hS hbS hmm
      by_cases hlt : k < n
      · have hc : wr.cell? ⟨b, off + k, none⟩ = some (.int .i64 (xs.getD k 0)) := by rw [hbr.cell (p := ⟨b, off + k, none⟩) hb]; exact hcell k hlt
        have hwk := wf_at hw (k := k) (by omega)
        have hcall := join_any w.heap.size (w.heap.size + 1) (xs.take k) (xs.getD k 0) wr hq hwk (by rw [List.length_take]; omega)
        have hst : xs.take k ++ [xs.getD k 0] = xs.take (k + 1) := by
          rw [List.take_succ_eq_append_getElem (by omega)]
          simp [List.getD, List.getElem?_eq_getElem (show k < xs.length by omega)]
        rw [hst] at hcall
        generalize xs.getD k 0 = y at hc hcall
        have HC := hidOf hcall
        clear hcell hcall hq hst
        go_wp2_with fail
        refine (HC.out).mono ?_
        rintro e w1 ⟨rfl, hq1, hb1⟩
        go_wp2
        go_roundw
        case rel => exact ⟨k + 1, by omega, by go_num, hq1, hbr.trans hb1⟩
        case measure => simp [intOf]; omega
      · obtain rfl : k = n := by omega
        clear hcell
        rw [List.take_of_length_le (by omega)] at hq
        go_wp2
        go_ret
        exact ⟨_, rfl, hq, hbr⟩

theorem line_noclient {xs : List Int} {k : Nat} {y : Int} (hk : k < xs.length) (hy : xs.getD k 0 = y) (h : clientL y = false) : lineL xs = false := line_bad hk hy (.inl h)

end Go.Proofs.YtihdglmiecifjaaGreat
namespace Go.Proofs.YtihdglmiecifjaaGreat
open Go.RowKit Go.Maps Pl Il

theorem QParts.look {B : Nat} {w : World} {qb mb : Nat} {cv : Value} {D : DataW Unit} {xs gone : List Int} (h : QParts B w qb mb cv D xs gone) {x : Int} (hx : (Lit.int .i64 x).wf = true) {p : Option Nat} (hp : placeG xs gone x = p) :
    (Instr.lookup 167 (.map (some mb)) (.int .i64 x) true).run Tryz.prog w = .ok (.tuple #[.int .i64 (p.getD 0 : Nat), .bool p.isSome]) w := by
  obtain ⟨v, ps, hrun, hv⟩ := h.mem.map.look_ok (t := 167) (e := 3) law3 Tryz.underlying167 (zero3 _) (plainElem_int Tryz.underlying3 (by decide)) (keyOf_int_mk Tryz.underlying3 hx)
  obtain ⟨c, rfl, hc, _⟩ := plainElem_int_inv Tryz.underlying3 hv
  rw [hrun, h.has x, h.at (congrArg Prod.fst hc), hp]

theorem append_more (B m : Nat) (v : Value) (ys : List Int) (x : Int) (w w0 : World) (hB : B = w0.heap.size) (ho : w.ownsRow B 3 1 v m (ys.map (Value.int .i64))) (hb : Below B w0 w) (hs : m + 1 ≤ 4194304) :
    ∃ (g' c' : Nat) (w' : World), (Builtin.append_ #[26, 26] 26 #[v, .slice (some ⟨w.heap.size, 0, none⟩) 1 1]).run Tryz.prog (w.alloc (.cells #[.int .i64 x] 3)) = .ok (.slice (some ⟨g', 0, none⟩) (m + 1) c') w' ∧
      w'.ownsRow B 3 1 (.slice (some ⟨g', 0, none⟩) (m + 1) c') (m + 1) ((ys ++ [x]).map (Value.int .i64)) ∧ Below B w0 w' := by
  subst hB
  obtain ⟨g, c, w', hr, ho', hg, _⟩ := append_own1 _ m v ys x w ho hb.size hs
  exact ⟨g, c, w', hr, ho', hb.grown hg hb.size (fun k hk => (ho.lt k hk).1)⟩

theorem standing_any (B qb : Nat) (xs gone : List Int) (w : World) (hQ : QAt B w qb xs gone) (hw : wfL xs) (hn : xs.length ≤ 2097152) :
    Calls Tryz.prog 170 #[.pointer (some ⟨qb, 0, none⟩)] w fun e w' => ∃ v, e = .returned v ∧ w'.ownsRow w.heap.size 3 1 v (standTo xs gone xs.length).length ((standTo xs gone xs.length).map (Value.int .i64)) ∧ Below w.heap.size w w' := by
  obtain ⟨mb, cv, D, hq⟩ := hQ
  have c0 := hq.mem.c0
  have hlq := hq.mem.lt
  obtain ⟨a, ca, rfl, hI⟩ := hq.mem.form
  have HQ := hidOf hq
  clear hq
  obtain ⟨_, h0 | ⟨b, off, rfl, hb, hcell⟩⟩ := hI
  · have hx : xs = [] := List.length_eq_zero_iff.1 h0
    subst hx
    go_enter Tryz.func170, Tryz.ntmps170
    go_wp2
    go_loop [3, 13] (fun v i => v = .slice none 0 0 ∧ i = .int .i64 0) (fun _ _ => 0)
    case atStart => exact ⟨rfl, rfl⟩
    case round =>
      obtain ⟨rfl, rfl⟩ := hrel
      go_wp2
      go_ret
      exact ⟨_, rfl, ⟨rfl, .inl ⟨rfl, rfl⟩⟩, Below.refl _ _⟩
  · generalize hnn : xs.length = n at *
    go_enter Tryz.func170, Tryz.ntmps170
    go_wp2
    go_loopw [3, 13] (fun v i wr => ∃ k : Nat, k ≤ n ∧ i = .int .i64 k ∧ wr.ownsRow w.heap.size 3 1 v (standTo xs gone k).length ((standTo xs gone k).map (Value.int .i64)) ∧ Below w.heap.size w wr) (fun _ i _ => n - (intOf i).toNat)
    case atStart => exact ⟨0, Nat.zero_le _, rfl, ⟨rfl, .inl ⟨rfl, rfl⟩⟩, Below.refl _ _⟩
    case round =>
      rename_i wr
      obtain ⟨k, hk, rfl, ho, hbr⟩ := hrel
      by_cases hlt : k < n
      · have hc : wr.cell? ⟨b, off + k, none⟩ = some (.int .i64 (xs.getD k 0)) := by rw [hbr.cell (p := ⟨b, off + k, none⟩) hb]; exact hcell k hlt
        have hwk := wf_at hw (k := k) (by omega)
        have hp : QParts B wr qb mb _ D xs gone := ⟨HQ.out.mem.keep hbr, HQ.out.rd⟩
        have c1 := hp.mem.c1
        generalize hy : xs.getD k 0 = y at hc hwk
        have hlook := fun p => hp.look hwk (p := p)
        have hm := stand_len xs gone k
        obtain ⟨g', c', w', hr, ho', hb'⟩ := append_more w.heap.size _ u3 _ y wr w rfl ho hbr (by omega)
        have hyes := fun h => stand_yes (gone := gone) hy h
        have hno := fun h => stand_no (gone := gone) hy h
        generalize hst : standTo xs gone k = st at *
        generalize hsl : st.length = sl at *
        have Hr := hidOf hr
        have Ho := hidOf ho
        have Ho' := hidOf ho'
        have Hbr := hidOf hbr
        have Hb' := hidOf hb'
        have Hyes := hidOf hyes
        have Hno := hidOf hno
        have HS := hidOf hsl
        have hkk : (k : Int) < (n : Int) := by omega
        clear hy hcell hr ho ho' hbr hb' hp hyes hno hst hsl
        cases hpl : placeG xs gone y with
        | none =>
          have hl := hlook _ hpl
          simp only [Option.getD_none, Option.isSome_none] at hl
          clear hlook
          go_wp2
          go_roundw
          case rel => exact ⟨k + 1, by omega, by go_num, by rw [Hno.out (by rw [hpl]; simp), HS.out]; exact Ho.out, Hbr.out⟩
          case measure => simp [intOf]; omega
        | some j =>
          have hl := hlook _ hpl
          simp only [Option.getD_some, Option.isSome_some] at hl
          clear hlook
          by_cases hj : j = k
          · subst hj
            have hjj : ((j : Int) == (j : Int)) = true := by simp
            go_wp2_with (first
              | (at_builtin; refine wpList_append_run rfl _ _ 26 rfl _ _ _ rfl rfl Hr.out ?_)
              | go_in)
            go_roundw
            case rel => exact ⟨j + 1, by omega, by go_num, by rw [Hyes.out hpl, List.length_append, HS.out]; exact Ho'.out, Hb'.out⟩
            case measure => simp [intOf]; omega
          · have hjj : ((j : Int) == (k : Int)) = false := by simp; omega
            go_wp2
            go_roundw
            case rel => exact ⟨k + 1, by omega, by go_num, by rw [Hno.out (by rw [hpl]; simp; omega), HS.out]; exact Ho.out, Hbr.out⟩
            case measure => simp [intOf]; omega
      · obtain rfl : k = n := by omega
        clear hcell
        go_wp2
        go_ret
        exact ⟨_, rfl, ho, hbr⟩
end Go.Proofs.YtihdglmiecifjaaGreat
namespace Go.Proofs.YtihdglmiecifjaaGreat
open Go.RowKit Pl Il

theorem copied_run (a : Option Addr) (n cap : Nat) (xs : List Int) (w : World) (hI : IntsAt w a n xs) (hn : n ≤ 2097152) : ∃ (v : Value) (w' : World),
    (Builtin.append_ #[26, 26] 26 #[.slice none 0 0, .slice a n cap]).run Tryz.prog w = .ok v w' ∧ w'.ownsRow w.heap.size 3 1 v n (xs.map (Value.int .i64)) ∧ Below w.heap.size w w' := by
  obtain ⟨i, hi, hz0, hz1, hz2⟩ := info_parts info3
  have hnil : w.ownsRow w.heap.size 3 1 (.slice none 0 0) 0 [] := ⟨rfl, .inl ⟨rfl, rfl⟩⟩
  obtain ⟨hlen, h0⟩ := hI
  rcases Nat.eq_zero_or_pos n with rfl | hpos
  · have hx : xs = [] := List.length_eq_zero_iff.1 hlen
    subst hx
    refine ⟨_, _, run_append_nothing w 26 26 26 3 i Tryz.underlying26 hi none 0 0 (Nat.le_refl _) _ ?_, hnil, Below.refl _ _⟩
    rcases a with _ | ad
    · exact Src.ofNil _ Tryz.underlying26 cap
    · exact Src.ofSlice _ Tryz.underlying26 ad 0 cap [] (by simp) (fun j u h => by simp at h) (fun u h => by cases h)
  · rcases h0 with h0 | ⟨b, off, rfl, hb, hcell⟩
    · omega
    · obtain ⟨g', c', w', hr, hown, hgrow, _, _⟩ := run_append_lies (P := Tryz.prog) w 26 26 w.heap.size 3 i (.int .i64 0) 1 8 Tryz.underlying26 hi hz0 hz1 hz2 rfl (by omega) _ 0 _ hnil ⟨b, off, none⟩ n cap (xs.map (Value.int .i64)) (by simp [hlen])
        (fun j u h => by
          rw [Addr.add_lit]
          have hj : j < n := by
            have := (List.getElem?_eq_some_iff.1 h).1
            simpa [hlen] using this
          rw [hcell j hj]
          simp only [List.getElem?_map] at h
          rw [List.getElem?_eq_getElem (by omega)] at h
          simp only [Option.map_some, Option.some.injEq] at h
          rw [← h]
          simp [List.getD, List.getElem?_eq_getElem (show j < xs.length by omega)])
        (fun u hu => by obtain ⟨_, _, rfl⟩ := List.mem_map.1 hu; rfl) hpos (by unfold maxLen; omega) (by omega) (Nat.le_refl _) _ rfl
      rw [Nat.zero_add] at hr hown
      rw [List.nil_append] at hown
      exact ⟨_, w', hr, hown, (Below.refl _ _).grown hgrow (Nat.le_refl _) (fun k hk => by cases hk)⟩

theorem copied_any2 (a : Option Addr) (n cap : Nat) (xs : List Int) (w : World) (hI : IntsAt w a n xs) (hn : n ≤ 2097152) :
    Calls Tryz.prog 140 #[.slice a n cap] w fun e w' => ∃ a' c', e = .returned (.slice a' n c') ∧ Il.OwnAt w.heap.size w' a' n xs ∧ Below w.heap.size w w' ∧ n ≤ c' := by
  obtain ⟨v, w', hr, ho, hb⟩ := copied_run a n cap xs w hI hn
  obtain ⟨a', c', rfl, hO⟩ := own_of ho xs rfl
  have hcp := own_cap ho
  have Hr := hidOf hr
  clear hr ho hI
  go_enter Tryz.func140, Tryz.ntmps140
  go_wp2_with (at_builtin; refine wpList_append_run rfl _ _ 26 rfl _ _ _ rfl rfl Hr.out ?_)
  go_ret
  exact ⟨a', c', rfl, hO, hb, hcp⟩

theorem copied_any (a : Option Addr) (n cap : Nat) (xs : List Int) (w : World) (hI : IntsAt w a n xs) (hn : n ≤ 2097152) :
    Calls Tryz.prog 140 #[.slice a n cap] w fun e w' => ∃ a' c', e = .returned (.slice a' n c') ∧ Il.OwnAt w.heap.size w' a' n xs ∧ Below w.heap.size w w' :=
  (copied_any2 a n cap xs w hI hn).mono fun _ _ ⟨a', c', h1, h2, h3, _⟩ => ⟨a', c', h1, h2, h3⟩

end Go.Proofs.YtihdglmiecifjaaGreat
namespace Go.Proofs.YtihdglmiecifjaaGreat
open Go.RowKit Go.Maps Pl Il

theorem Il.OwnAt.grown {B : Nat} {w w' : World} {a : Option Addr} {n mb : Nat} {xs : List Int} (h : Il.OwnAt B w a n xs) (hg : w.grownBy w' (some mb)) (hm : mb < B) : Il.OwnAt B w' a n xs := by
  have key : ∀ b, b < w.heap.size → B ≤ b → w'.heap[b]? = w.heap[b]? := fun b hb hB => hg.block b hb (by intro e; cases e; omega)
  obtain ⟨⟨hl, hr⟩, ho⟩ := h
  rcases hr with h0 | ⟨b, off, rfl, hlt, hc⟩
  · exact ⟨⟨hl, .inl h0⟩, .inl h0⟩
  · rcases ho with h0 | ⟨b', off', e, hB, hf⟩
    · exact ⟨⟨hl, .inl h0⟩, .inl h0⟩
    · cases e
      refine ⟨⟨hl, .inr ⟨b, off, rfl, Nat.lt_of_lt_of_le hlt hg.size, fun i hi => ?_⟩⟩, .inr ⟨b, off, rfl, hB, fun i hi => ?_⟩⟩
      · rw [← hc i hi]; exact World.cell?_of_block (key b hlt hB)
      · rw [← hf i hi]; exact World.frozen?_of_block (key b hlt hB)
theorem Il.OwnAt.take {B : Nat} {w : World} {a : Option Addr} {n : Nat} {xs : List Int} (h : Il.OwnAt B w a n xs) (i : Nat) (hi : i ≤ n) : Il.OwnAt B w a i (xs.take i) := by
  refine ⟨h.ints.take i hi, ?_⟩
  rcases h.own with h0 | ⟨b, off, rfl, hB, hf⟩
  · exact .inl (by omega)
  · exact .inr ⟨b, off, rfl, hB, fun j hj => hf j (by omega)⟩

theorem QParts.mlt {B : Nat} {w : World} {qb mb : Nat} {cv : Value} {D : DataW Unit} {xs gone : List Int} (h : QParts B w qb mb cv D xs gone) : mb < w.heap.size := h.mem.map.lt

theorem grown_trans {w w1 w2 : World} {b : Nat} (h : w.grownBy w1 (some b)) (k : w1.grownBy w2 (some b)) : w.grownBy w2 (some b) :=
  ⟨k.os.trans h.os, k.tape.trans h.tape, k.output.trans h.output, Nat.le_trans h.size k.size, fun i hi hn => (k.block i (Nat.lt_of_lt_of_le hi h.size) hn).trans (h.block i hi hn)⟩

/-- The first of the line leave, and are told. -/
theorem wake_any (B qb : Nat) (xs : List Int) (m : Nat) (w : World) (hQ : QAt B w qb xs []) (hw : wfL xs) (hd : xs.Nodup) (hn : xs.length ≤ 32) (hm : m ≤ xs.length) (k : Int) (hk : k = (m : Int) ∨ m = xs.length ∧ (m : Int) ≤ k) :
    Calls Tryz.prog 169 #[.pointer (some ⟨qb, 0, none⟩), .int .i64 k] w fun e w' => ∃ a c, e = .returned (.slice a m c) ∧ Il.OwnAt w.heap.size w' a m (xs.take m) ∧ QAt B w' qb xs (xs.take m) ∧ Below B w w' := by
  have hBs : B ≤ w.heap.size := by obtain ⟨_, _, _, h⟩ := hQ; exact h.mem.size
  have hst := stand_full hd
  have hS := standing_any B qb xs [] w hQ hw (by omega)
  rw [hst] at hS
  obtain ⟨mb, cv, D, hq⟩ := hQ
  have hmb := hq.mlt
  have hge := hq.mem.ge'
  have HS := hidOf hS
  have HQ := hidOf hq
  clear hS hq hst
  go_enter Tryz.func169, Tryz.ntmps169
  go_wp2_with fail
  refine HS.out.mono ?_
  rintro e w1 ⟨v, rfl, ho, hb1⟩
  have HP := hidOf (show QParts B w1 qb mb cv D xs [] from ⟨HQ.out.mem.keep hb1, HQ.out.rd⟩)
  clear HS HQ
  by_cases hlt : m < xs.length
  · obtain rfl : k = (m : Int) := by omega
    obtain ⟨g, cap, rfl, _⟩ := ho.form (by omega)
    have hcap := (owns_parts ho).2.2.2.1
    have hO := Il.OwnAt.take (owns_parts ho).2.2.2.2.2 m (by omega)
    have HO := hidOf hO
    have i1 : (m : Int) < (xs.length : Int) := by omega
    have i2 : (0 : Int) ≤ (m : Int) := by omega
    have i3 : (m : Int) ≤ (cap : Int) := by omega
    clear hO ho hk
    go_wp2
    go_loopw [19] (fun i wr => ∃ (j : Nat) (D' : DataW Unit), j ≤ m ∧ i = .int .i64 j ∧ QParts B wr qb mb cv D' xs ((xs.take m).take j) ∧ w1.grownBy wr (some mb)) (fun i _ => m - (intOf i).toNat)
    case atStart => exact ⟨0, D, Nat.zero_le _, rfl, by rw [List.take_zero]; exact HP.out, ⟨rfl, rfl, rfl, Nat.le_refl _, fun _ _ _ => rfl⟩⟩
    case round =>
      obtain ⟨j, D', hj, rfl, hp, hg⟩ := hrel
      have hO2 := Il.OwnAt.grown HO.out hg hmb
      by_cases hlt : j < m
      · obtain ⟨_, h0 | ⟨b', off', e', hb', hcell⟩⟩ := id hO2.ints
        · omega
        · cases e'
          have hc := hcell j hlt
          rw [Nat.zero_add] at hc
          have hwj := wf_at (wf_take hw m) (k := j) (by rw [List.length_take]; omega)
          have hcall := leave_parts B qb mb cv D' xs _ ((xs.take m).getD j 0) _ hp hwj
          have hst' : (xs.take m).take j ++ [(xs.take m).getD j 0] = (xs.take m).take (j + 1) := by
            have hl : j < (xs.take m).length := by rw [List.length_take]; omega
            rw [List.take_succ_eq_append_getElem hl]
            simp only [List.getD, List.getElem?_eq_getElem hl, Option.getD_some]
          rw [hst'] at hcall
          generalize (xs.take m).getD j 0 = y at hc hcall
          have HC := hidOf hcall
          have Hg := hidOf hg
          have hjm : (j : Int) < (m : Int) := by omega
          clear hcell hcall hp hO2 hg hst'
          go_wp2_with fail
          refine (HC.out).mono ?_
          rintro e w2 ⟨rfl, hp1, hg1⟩
          go_wp2
          go_roundw
          case rel => exact ⟨j + 1, _, by omega, by go_num, hp1, grown_trans Hg.out hg1⟩
          case measure => simp [intOf]; omega
      · obtain rfl : j = m := by omega
        rw [List.take_take, Nat.min_self] at hp
        have Hp := hidOf hp
        have HO2 := hidOf hO2
        have Hb := (hb1.mono hBs).grown (row := some mb) hg (Nat.le_trans hBs hb1.size) (fun k hk => by cases hk; exact hge)
        clear hp hO2
        go_wp2
        go_ret
        exact ⟨_, _, rfl, HO2.out, ⟨_, _, _, Hp.out⟩, Hb⟩
  · have hmx : m = xs.length := by omega
    have hk' : ¬ k < (m : Int) := by omega
    have htk : xs.take m = xs := by rw [hmx]; exact List.take_length
    rw [← hmx] at ho
    rcases Nat.eq_zero_or_pos m with h0 | hpos
    · obtain ⟨a, c, rfl, hO⟩ := own_of ho xs rfl
      have HO := hidOf (show Il.OwnAt w.heap.size w1 a m (xs.take m) by rw [htk]; exact hO)
      have HP2 := hidOf (show QParts B w1 qb mb cv D xs (xs.take m) by rw [h0, List.take_zero]; exact HP.out)
      have Hb : Below B w w1 := hb1.mono hBs
      have hm0 : ¬ (0 : Int) < (m : Int) := by omega
      clear hO ho hk htk hmx
      go_wp2
      go_loop [19] (fun i => i = .int .i64 0) (fun _ => 0)
      case atStart => rfl
      case round =>
        subst hrel
        go_wp2
        go_ret
        exact ⟨_, ⟨_, rfl⟩, ⟨⟨rfl, .inl rfl⟩, .inl rfl⟩, ⟨_, _, _, HP.out⟩, Hb⟩
    · obtain ⟨g, cap, rfl, _⟩ := ho.form hpos
      have hO := Il.OwnAt.take (owns_parts ho).2.2.2.2.2 m (Nat.le_refl _)
      have HO := hidOf hO
      have Hm := hidOf hmx
      clear hO ho hk htk hmx
      go_wp2
      go_loopw [19] (fun i wr => ∃ (j : Nat) (D' : DataW Unit), j ≤ m ∧ i = .int .i64 j ∧ QParts B wr qb mb cv D' xs ((xs.take m).take j) ∧ w1.grownBy wr (some mb)) (fun i _ => m - (intOf i).toNat)
      case atStart => exact ⟨0, D, Nat.zero_le _, rfl, by rw [List.take_zero]; exact HP.out, ⟨rfl, rfl, rfl, Nat.le_refl _, fun _ _ _ => rfl⟩⟩
      case round =>
        obtain ⟨j, D', hj, rfl, hp, hg⟩ := hrel
        have hO2 := Il.OwnAt.grown HO.out hg hmb
        by_cases hlt : j < m
        · obtain ⟨_, h0 | ⟨b', off', e', hb', hcell⟩⟩ := id hO2.ints
          · omega
          · cases e'
            have hc := hcell j hlt
            rw [Nat.zero_add] at hc
            have hwj := wf_at (wf_take hw m) (k := j) (by rw [List.length_take]; omega)
            have hcall := leave_parts B qb mb cv D' xs _ ((xs.take m).getD j 0) _ hp hwj
            have hst' : (xs.take m).take j ++ [(xs.take m).getD j 0] = (xs.take m).take (j + 1) := by
              have hl : j < (xs.take m).length := by rw [List.length_take]; omega
              rw [List.take_succ_eq_append_getElem hl]
              simp only [List.getD, List.getElem?_eq_getElem hl, Option.getD_some]
            rw [hst'] at hcall
            generalize (xs.take m).getD j 0 = y at hc hcall
            have HC := hidOf hcall
            have Hg := hidOf hg
            have hjm : (j : Int) < (m : Int) := by omega
            clear hcell hcall hp hO2 hg hst'
            go_wp2_with fail
            refine (HC.out).mono ?_
            rintro e w2 ⟨rfl, hp1, hg1⟩
            go_wp2
            go_roundw
            case rel => exact ⟨j + 1, _, by omega, by go_num, hp1, grown_trans Hg.out hg1⟩
            case measure => simp [intOf]; omega
        · obtain rfl : j = m := by omega
          rw [List.take_take, Nat.min_self] at hp
          have Hp := hidOf hp
          have HO2 := hidOf hO2
          have Hb := (hb1.mono hBs).grown (row := some mb) hg (Nat.le_trans hBs hb1.size) (fun k hk => by cases hk; exact hge)
          clear hp hO2
          go_wp2
          go_ret
          exact ⟨_, _, rfl, HO2.out, ⟨_, _, _, Hp.out⟩, Hb⟩
end Go.Proofs.YtihdglmiecifjaaGreat
namespace Go.Proofs.YtihdglmiecifjaaGreat
open Go.RowKit Go.Maps Pl Il

theorem implPlaceOf_any (a : Option Addr) (n cap : Nat) (xs : List Int) (x : Int) (w : World) (hI : IntsAt w a n xs) (hn : n ≤ 2097152) (hw : wfL xs) (hx : (Lit.int .i64 x).wf = true) :
    Calls Tryz.prog 179 #[.slice a n cap, .int .i64 x] w fun e w' => e = .returned (.int .i64 (placeL xs x)) ∧ Below w.heap.size w w' := by
  go_enter Tryz.func179, Tryz.ntmps179
  go_wp2_with fail
  refine (queueOf_any a n cap xs _ hI hn hw).mono ?_
  rintro e w1 ⟨qb, rfl, hq, hb⟩
  go_wp2_with fail
  refine (placeOf_any _ qb xs [] x _ hq hx).mono ?_
  rintro e w2 ⟨rfl, rfl⟩
  have hp := place_placeL xs x
  have HP := hidOf hp
  clear hp hq hI
  cases hc : placeG xs [] x with
  | none =>
    go_wp2
    go_ret
    refine ⟨rint ?_, hb⟩
    rw [HP.out, hc]
  | some i =>
    go_wp2
    go_ret
    refine ⟨rint ?_, hb⟩
    rw [HP.out, hc]
/-- A list handed back: in new memory. -/
structure Back (w : World) (a : Option Addr) (n : Nat) (ys : List Int) (w' : World) : Prop where
  own : Il.OwnAt w.heap.size w' a n ys
  below : Below w.heap.size w w'
theorem Back.of {w w1 w2 : World} {a : Option Addr} {n : Nat} {ys : List Int} (h1 : Below w.heap.size w w1) (ho : Il.OwnAt w1.heap.size w2 a n ys) (h2 : Below w1.heap.size w1 w2) : Back w a n ys w2 := ⟨ho.mono h1.size, bl_trans h1 h2⟩

end Go.Proofs.YtihdglmiecifjaaGreat
namespace Go.Proofs.YtihdglmiecifjaaGreat
open Go.RowKit Go.Maps Pl Il

/-- What Wake leaves of the line. -/
def wakeRest (xs : List Int) (k : Int) : List Int := if lineL xs && decide (0 ≤ k) then xs.drop (wakeN xs k) else xs
/-- Whom Wake wakes. -/
def wakeOut (xs : List Int) (k : Int) : List Int := if lineL xs && decide (0 ≤ k) then xs.take (wakeN xs k) else []
theorem wake_bad {xs : List Int} {k : Int} (h : lineL xs = false ∨ k < 0) : wakeRest xs k = xs ∧ wakeOut xs k = [] := by
  rcases h with h | h
  · simp [wakeRest, wakeOut, h]
  · have : ¬ 0 ≤ k := by omega
    simp [wakeRest, wakeOut, this]
theorem wake_good {xs : List Int} {k : Int} (h : lineL xs = true) (hk : 0 ≤ k) : wakeRest xs k = xs.drop (wakeN xs k) ∧ wakeOut xs k = xs.take (wakeN xs k) := by
  simp [wakeRest, wakeOut, h, hk]

/-- Two lists that the call has made, apart from one another. -/
structure Apart (w : World) (a1 : Option Addr) (m1 : Nat) (ys : List Int) (a2 : Option Addr) (m2 : Nat) (zs : List Int) (w' : World) : Prop where
  one : Il.OwnAt w.heap.size w' a1 m1 ys
  two : Il.OwnAt w.heap.size w' a2 m2 zs
  apart : m1 = 0 ∨ m2 = 0 ∨ ∀ b off b' off', a1 = some ⟨b, off, none⟩ → a2 = some ⟨b', off', none⟩ → b ≠ b'
  below : Below w.heap.size w w'
end Go.Proofs.YtihdglmiecifjaaGreat
namespace Go.Proofs.YtihdglmiecifjaaGreat
open Go.RowKit Go.Maps Pl Il

theorem ownsRow_keep {B : Nat} {w w' : World} {v : Value} {n s : Nat} {t : TypeId} {xs : List Value} (h : w.ownsRow B t s v n xs) (hb : Below w.heap.size w w') : w'.ownsRow B t s v n xs := by
  obtain ⟨hl, hn | ⟨g, cap, cur, rfl, hB, hg, hr⟩⟩ := h
  · exact ⟨hl, .inl hn⟩
  · have hlt : g < w.heap.size := by
      rcases Nat.lt_or_ge g w.heap.size with k | k
      · exact k
      · rw [Array.getElem?_eq_none k] at hg; cases hg
    exact ⟨hl, .inr ⟨g, cap, cur, rfl, hB, by rw [hb.block g hlt]; exact hg, hr⟩⟩
theorem isCount_any (x : Int) (w : World) :
    Calls Tryz.prog 95 #[.int .i64 x] w fun e w' => e = .returned (.bool (cnt x)) ∧ w' = w := by
  go_enter Tryz.func95, Tryz.ntmps95
  go_wp2
  all_goals go_ret
  all_goals (refine ⟨rbool ?_, rfl⟩; simp [cnt]; try omega)
end Go.Proofs.YtihdglmiecifjaaGreat
