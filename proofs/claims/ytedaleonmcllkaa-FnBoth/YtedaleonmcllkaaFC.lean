/-
  Walks of what copies a list of terms.
-/
import Derived.Test.YtedaleonmcllkaaFT
import Derived.Test.YtedaleonmcllkaaH6
import Derived.Deep.Upon
import Derived.Deep.RegionHeld3
namespace Go.Proofs.Ytedaleonmcllkaa
open Go.RowKit Pl Il

theorem infoFc : (Try.prog.info? 57).map (fun i => (i.zero, i.size, i.bytes)) = some (some (.agg #[.int .i64 0, .int .i64 0, .string ⟨#[]⟩]), 3, 32) := by kernel_rfl
theorem mod3 (j : Nat) : j % 3 = 0 ∨ j % 3 = 1 ∨ j % 3 = 2 := by omega
/-- Terms are appended to an own row. -/
theorem append_tms (B : Nat) (v : Value) (m : Nat) (ys : List Tm) (a : Option Addr) (n cap : Nat) (ts : List Tm) (w : World) (ho : w.ownsRow B 57 3 v m (qflat ys)) (hB : B ≤ w.heap.size) (hI : TmAt w a n ts) (hn : m + n ≤ 4194304) : ∃ (v' : Value) (w' : World),
    (Builtin.append_ #[24, 24] 24 #[v, .slice a n cap]).run Try.prog w = .ok v' w' ∧ w'.ownsRow B 57 3 v' (m + n) (qflat (ys ++ ts)) ∧ w.grownBy w' v.ownBlock := by
  obtain ⟨i, hi, hz0, hz1, hz2⟩ := info_parts infoFc
  obtain ⟨hlen, _, h0⟩ := hI
  rcases Nat.eq_zero_or_pos n with rfl | hpos
  · have hx : ts = [] := List.length_eq_zero_iff.1 hlen
    subst hx
    have hg : w.grownBy w v.ownBlock := ⟨rfl, rfl, rfl, Nat.le_refl _, fun _ _ _ => rfl⟩
    have hform : ∃ q c, v = .slice q m c ∧ m ≤ c := by
      obtain ⟨_, ⟨rfl, rfl⟩ | ⟨g, cp, cur, rfl, _, _, hc, _⟩⟩ := id ho
      · exact ⟨_, _, rfl, Nat.le_refl _⟩
      · exact ⟨_, _, rfl, hc⟩
    obtain ⟨q, c, rfl, hmc⟩ := hform
    refine ⟨_, _, run_append_nothing w 24 24 24 57 i Try.underlying24 hi q m c hmc _ ?_, by rw [Nat.add_zero, List.append_nil]; exact ho, hg⟩
    rcases a with _ | ad
    · exact Src.ofNil _ Try.underlying24 cap
    · exact Src.ofSlice _ Try.underlying24 ad 0 cap [] (by simp) (fun j u h => by simp at h) (fun u h => by cases h)
  · rcases h0 with h0 | ⟨b, off, rfl, hb, hcell⟩
    · omega
    · obtain ⟨g', c', w', hr, hown, hgrow, _, _⟩ := run_append_lies (P := Try.prog) w 24 24 B 57 i _ 3 32 Try.underlying24 hi hz0 hz1 hz2 rfl (by omega) v m _ ho ⟨b, off, none⟩ n cap (qflat ts) (by rw [length_qflat, hlen])
        (fun j u h => by
          rw [Addr.add_lit]
          have hj : j < n * 3 := by
            have := (List.getElem?_eq_some_iff.1 h).1
            rw [length_qflat, hlen] at this
            exact this
          obtain ⟨q1, q2, q3⟩ := hcell (j / 3) (by omega)
          have e := qflat_at ts (j / 3) (j % 3) (by omega) (by omega)
          have ej : j / 3 * 3 + j % 3 = j := by omega
          rw [ej, h] at e
          rcases mod3 j with hm | hm | hm
          · rw [hm] at e
            rw [show off + j = off + j / 3 * 3 by omega, q1]
            simpa [qC] using e.symm
          · rw [hm] at e
            rw [show off + j = off + j / 3 * 3 + 1 by omega, q2]
            simpa [qC] using e.symm
          · rw [hm] at e
            rw [show off + j = off + j / 3 * 3 + 2 by omega, q3]
            simpa [qC] using e.symm)
        (fun u hu => by
          simp only [qflat, List.mem_flatMap, qC, List.mem_cons, List.not_mem_nil, or_false] at hu
          obtain ⟨p, _, rfl | rfl | rfl⟩ := hu <;> rfl) hpos (by unfold maxLen; omega) (by omega) hB _ rfl
      exact ⟨_, w', hr, by rw [qflat_append]; exact hown, hgrow⟩

theorem copiedF_any (a : Option Addr) (n cap : Nat) (ts : List Tm) (w : World) (hI : TmAt w a n ts) (hn : n ≤ 2097152) :
    Calls Try.prog 33 #[.slice a n cap] w fun e w' => ∃ a' c', e = .returned (.slice a' n c') ∧ w'.ownsRow w.heap.size 57 3 (.slice a' n c') n (qflat ts) ∧ Below w.heap.size w w' := by
  obtain ⟨v, w', hr, ho, hg⟩ := append_tms w.heap.size (.slice none 0 0) 0 [] a n cap ts w (World.ownsRow_nil _ _ _ _) (Nat.le_refl _) hI (by omega)
  rw [Nat.zero_add, List.nil_append] at ho
  have hb : Below w.heap.size w w' := (Below.refl _ _).grown hg (Nat.le_refl _) (fun k hk => by cases hk)
  obtain ⟨a', c', rfl, _, _⟩ := ownF_of ho ts rfl hI.short
  have Hr := hidOf hr
  have HO := hidOf ho
  clear hr ho hI hg
  go_enter Try.func33, Try.ntmps33
  go_wp2_with (at_builtin; refine wpList_append_run rfl _ _ 24 rfl _ _ _ rfl rfl Hr.out ?_)
  go_ret
  exact ⟨_, _, rfl, HO.out, hb⟩

theorem own_farF {B : Nat} {w : World} {v : Value} {n : Nat} {t : TypeId} {xs : List Value} (h : w.ownsRow B t 3 v n xs) (b o : Nat) (hb : b < B) (x : Value) : (w.setCell ⟨b, o, none⟩ x).ownsRow B t 3 v n xs := by
  refine h.kept (row := some b) ⟨rfl, rfl, rfl, by simp, fun k _ hk => Below.heap_setCell _ _ _ _ (by rintro rfl; exact hk rfl)⟩ ?_
  cases e : v.ownBlock with
  | none => exact .inl rfl
  | some q => exact .inr (fun e' => by cases e'; have := (h.lt _ e).1; omega)
end Go.Proofs.Ytedaleonmcllkaa
