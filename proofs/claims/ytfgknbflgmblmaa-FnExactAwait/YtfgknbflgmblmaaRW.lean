/-
  Two lists of numbers, each a row of its own, apart from one another: what appends and stores leave of them.
-/
import Derived.Test.YtfgknbflgmblmaaVW
import Derived.Test.YtfgknbflgmblmaaLS
import Derived.Test.YtfgknbflgmblmaaCP
namespace Go.Proofs.Ytfgknbflgmblmaa
open Go.RowKit Go.Maps Pl Il

abbrev intsV (xs : List Int) : List Value := xs.map (Value.int .i64)
/-- The two lists. -/
structure Rows2 (B : Nat) (w : World) (A : Na) (ln gs : List Int) : Prop where
  one : w.ownsRow B 3 1 (.slice A.a A.n A.c) A.n (intsV ln)
  two : w.ownsRow B 3 1 (.slice A.a' A.n' A.c') A.n' (intsV gs)
  ne : ∀ q, (Value.slice A.a A.n A.c).ownBlock = some q → (Value.slice A.a' A.n' A.c').ownBlock ≠ some q
section
variable {B B' : Nat} {w w' : World} {A : Na} {ln gs : List Int}
theorem row_set {v : Value} {n : Nat} {xs : List Value} (h : w.ownsRow B 3 1 v n xs) (N o : Nat) (hne : v.ownBlock ≠ some N) (x : Value) : (w.setCell ⟨N, o, none⟩ x).ownsRow B 3 1 v n xs := by
  refine h.kept (row := some N) ⟨rfl, rfl, rfl, by simp, fun k _ hk => Below.heap_setCell _ _ _ _ (by rintro rfl; exact hk rfl)⟩ ?_
  cases e : v.ownBlock with
  | none => exact .inl rfl
  | some q => exact .inr (fun e' => hne (by rw [e, e']))
theorem row_grown {v : Value} {n : Nat} {xs : List Value} (h : w.ownsRow B 3 1 v n xs) {g : Option Nat} (hg : w.grownBy w' g) (hne : ∀ q, g = some q → v.ownBlock ≠ some q) : w'.ownsRow B 3 1 v n xs := by
  refine h.kept (row := g) hg ?_
  cases e : v.ownBlock with
  | none => exact .inl rfl
  | some q => exact .inr (fun e' => hne q e'.symm e)
theorem row_mono {v : Value} {n : Nat} {xs : List Value} (h : w.ownsRow B 3 1 v n xs) (hb : B' ≤ B) : w.ownsRow B' 3 1 v n xs :=
  ⟨h.1, h.2.imp id fun ⟨g, cap, cur, h1, h2, h3⟩ => ⟨g, cap, cur, h1, Nat.le_trans hb h2, h3⟩⟩
theorem row_below {v : Value} {n : Nat} {xs : List Value} (h : w.ownsRow B 3 1 v n xs) (hb : Below w.heap.size w w') : w'.ownsRow B 3 1 v n xs := ownsRow_keep h hb
theorem row_own {a : Option Addr} {n c : Nat} {xs : List Int} (h : w.ownsRow B 3 1 (.slice a n c) n (intsV xs)) : Il.OwnAt B w a n xs ∧ n ≤ c := by
  have hcp := own_cap h
  obtain ⟨a', c', e, ho⟩ := own_of h xs rfl
  injection e with e1 _ _
  subst e1
  exact ⟨ho, hcp⟩
theorem Rows2.keep (h : Rows2 B w A ln gs) (hb : Below w.heap.size w w') : Rows2 B w' A ln gs := ⟨row_below h.one hb, row_below h.two hb, h.ne⟩
theorem Rows2.mono (h : Rows2 B w A ln gs) (hB : B' ≤ B) : Rows2 B' w A ln gs := ⟨row_mono h.one hB, row_mono h.two hB, h.ne⟩
theorem Rows2.set (h : Rows2 B w A ln gs) (N o : Nat) (h1 : (Value.slice A.a A.n A.c).ownBlock ≠ some N) (h2 : (Value.slice A.a' A.n' A.c').ownBlock ≠ some N) (x : Value) : Rows2 B (w.setCell ⟨N, o, none⟩ x) A ln gs := ⟨row_set h.one N o h1 x, row_set h.two N o h2 x, h.ne⟩
theorem Rows2.far (h : Rows2 B w A ln gs) (N o : Nat) (hN : N < B) (x : Value) : Rows2 B (w.setCell ⟨N, o, none⟩ x) A ln gs :=
  h.set N o (fun e => by have := (h.one.lt N e).1; omega) (fun e => by have := (h.two.lt N e).1; omega) x
theorem Rows2.ok (h : Rows2 B w A ln gs) : A.ok := ⟨(row_own h.one).2, (row_own h.two).2⟩
theorem Rows2.len (h : Rows2 B w A ln gs) : ln.length = A.n ∧ gs.length = A.n' := ⟨(row_own h.one).1.ints.len, (row_own h.two).1.ints.len⟩
theorem own_block {v : Value} {b off : Nat} {n c : Nat} (h : v = .slice (some ⟨b, off, none⟩) n c) : v.ownBlock = some b := by rw [h]; rfl
theorem Rows2.parts (h : Rows2 B w A ln gs) : Il.OwnAt B w A.a A.n ln ∧ Il.OwnAt B w A.a' A.n' gs ∧ (A.n = 0 ∨ A.n' = 0 ∨ ∀ b off b' off', A.a = some ⟨b, off, none⟩ → A.a' = some ⟨b', off', none⟩ → b ≠ b') := by
  refine ⟨(row_own h.one).1, (row_own h.two).1, .inr (.inr fun b off b' off' e e' hbb => ?_)⟩
  subst hbb
  exact h.ne b (by rw [e]; rfl) (by rw [e']; rfl)
end
/-- More numbers behind an own row. -/
theorem append_ownS (B m : Nat) (v : Value) (ys : List Int) (a : Option Addr) (n cap : Nat) (xs : List Int) (w : World) (ho : w.ownsRow B 3 1 v m (intsV ys)) (hB : B ≤ w.heap.size) (hI : IntsAt w a n xs) (hs : m + n ≤ 4194304) :
    ∃ (a' : Option Addr) (c' : Nat) (w' : World), (Builtin.append_ #[24, 24] 24 #[v, .slice a n cap]).run Try.prog w = .ok (.slice a' (m + n) c') w' ∧ w'.ownsRow B 3 1 (.slice a' (m + n) c') (m + n) (intsV (ys ++ xs)) ∧ w.grownBy w' v.ownBlock ∧
      (∀ q, (Value.slice a' (m + n) c').ownBlock = some q → v.ownBlock = some q ∨ w.heap.size ≤ q) := by
  obtain ⟨i, hi, hz0, hz1, hz2⟩ := info_parts info3
  obtain ⟨av, cv, hv, _⟩ := own_of ho ys rfl
  subst hv
  have hcp := own_cap ho
  obtain ⟨hlen, h0⟩ := hI
  rcases Nat.eq_zero_or_pos n with rfl | hpos
  · have hx : xs = [] := List.length_eq_zero_iff.1 hlen
    subst hx
    refine ⟨av, cv, w, run_append_nothing w 24 24 24 3 i Try.underlying24 hi av m cv hcp _ ?_, by rw [List.append_nil]; exact ho, ⟨rfl, rfl, rfl, Nat.le_refl _, fun _ _ _ => rfl⟩, fun q e => .inl e⟩
    rcases a with _ | ad
    · exact Src.ofNil _ Try.underlying24 cap
    · exact Src.ofSlice _ Try.underlying24 ad 0 cap [] (by simp) (fun j u h => by simp at h) (fun u h => by cases h)
  · rcases h0 with h0 | ⟨b, off, rfl, hb, hcell⟩
    · omega
    · obtain ⟨g', c', w', hr, hown, hgrow, hl, _⟩ := run_append_lies (P := Try.prog) w 24 24 B 3 i (.int .i64 0) 1 8 Try.underlying24 hi hz0 hz1 hz2 rfl (by omega) _ m _ ho ⟨b, off, none⟩ n cap (xs.map (Value.int .i64)) (by simp [hlen])
        (fun j u h => by
          rw [Addr.add_lit]
          have hj : j < n := by
            have := (List.getElem?_eq_some_iff.1 h).1
            simpa [hlen] using this
          rw [hcell j hj]
          simp only [List.getElem?_map] at h
          rw [List.getElem?_eq_getElem (by omega)] at h
          simp only [Option.map_some, Option.some.injEq] at h
          rw [← h]
          simp [List.getD, List.getElem?_eq_getElem (show j < xs.length by omega)])
        (fun u hu => by obtain ⟨_, _, rfl⟩ := List.mem_map.1 hu; rfl) hpos (by unfold maxLen; omega) (by omega) hB _ rfl
      refine ⟨_, c', w', hr, by rw [← List.map_append] at hown; exact hown, hgrow, fun q e => ?_⟩
      have e' : g' = q := by simpa [Value.ownBlock] using e
      subst e'
      rcases hl with h | h
      · exact .inl h
      · right; omega
end Go.Proofs.Ytfgknbflgmblmaa
