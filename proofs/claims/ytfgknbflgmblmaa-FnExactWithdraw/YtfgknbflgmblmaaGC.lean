/-
  Walks of what copies a list of grants.
-/
import Derived.Test.YtfgknbflgmblmaaGT
import Derived.Test.YtfgknbflgmblmaaH6
import Derived.Deep.Upon
import Derived.Deep.RegionHeld3
namespace Go.Proofs.Ytfgknbflgmblmaa
open Go.RowKit Pl Il

theorem infoGc : (Try.prog.info? 44).map (fun i => (i.zero, i.size, i.bytes)) = some (some (.agg #[.int .i64 0, .bool false]), 2, 16) := by kernel_rfl
/-- Timers are appended to an own row. -/
theorem append_grs (B : Nat) (v : Value) (m : Nat) (ys : List (Int × Bool)) (a : Option Addr) (n cap : Nat) (ts : List (Int × Bool)) (w : World) (ho : w.ownsRow B 44 2 v m (gflat ys)) (hB : B ≤ w.heap.size) (hI : GrAt w a n ts) (hn : m + n ≤ 4194304) : ∃ (v' : Value) (w' : World),
    (Builtin.append_ #[25, 25] 25 #[v, .slice a n cap]).run Try.prog w = .ok v' w' ∧ w'.ownsRow B 44 2 v' (m + n) (gflat (ys ++ ts)) ∧ w.grownBy w' v.ownBlock := by
  obtain ⟨i, hi, hz0, hz1, hz2⟩ := info_parts infoGc
  obtain ⟨hlen, h0⟩ := hI
  rcases Nat.eq_zero_or_pos n with rfl | hpos
  · have hx : ts = [] := List.length_eq_zero_iff.1 hlen
    subst hx
    have hg : w.grownBy w v.ownBlock := ⟨rfl, rfl, rfl, Nat.le_refl _, fun _ _ _ => rfl⟩
    have hform : ∃ q c, v = .slice q m c ∧ m ≤ c := by
      obtain ⟨_, ⟨rfl, rfl⟩ | ⟨g, cp, cur, rfl, _, _, hc, _⟩⟩ := id ho
      · exact ⟨_, _, rfl, Nat.le_refl _⟩
      · exact ⟨_, _, rfl, hc⟩
    obtain ⟨q, c, rfl, hmc⟩ := hform
    refine ⟨_, _, run_append_nothing w 25 25 25 44 i Try.underlying25 hi q m c hmc _ ?_, by rw [Nat.add_zero, List.append_nil]; exact ho, hg⟩
    rcases a with _ | ad
    · exact Src.ofNil _ Try.underlying25 cap
    · exact Src.ofSlice _ Try.underlying25 ad 0 cap [] (by simp) (fun j u h => by simp at h) (fun u h => by cases h)
  · rcases h0 with h0 | ⟨b, off, rfl, hb, hcell⟩
    · omega
    · obtain ⟨g', c', w', hr, hown, hgrow, _, _⟩ := run_append_lies (P := Try.prog) w 25 25 B 44 i _ 2 16 Try.underlying25 hi hz0 hz1 hz2 rfl (by omega) v m _ ho ⟨b, off, none⟩ n cap (gflat ts) (by rw [length_gflat, hlen])
        (fun j u h => by
          rw [Addr.add_lit]
          have hj : j < n * 2 := by
            have := (List.getElem?_eq_some_iff.1 h).1
            rw [length_gflat, hlen] at this
            exact this
          obtain ⟨q1, q2⟩ := hcell (j / 2) (by omega)
          have e := gflat_at ts (j / 2) (j % 2) (by omega) (by omega)
          have ej : j / 2 * 2 + j % 2 = j := by omega
          rw [ej, h] at e
          rcases Nat.mod_two_eq_zero_or_one j with hm | hm
          · rw [hm] at e
            rw [show off + j = off + j / 2 * 2 by omega, q1]
            simpa [gC] using e.symm
          · rw [hm] at e
            rw [show off + j = off + j / 2 * 2 + 1 by omega, q2]
            simpa [gC] using e.symm)
        (fun u hu => by
          simp only [gflat, List.mem_flatMap, gC, List.mem_cons, List.not_mem_nil, or_false] at hu
          obtain ⟨p, _, rfl | rfl⟩ := hu <;> rfl) hpos (by unfold maxLen; omega) (by omega) hB _ rfl
      exact ⟨_, w', hr, by rw [gflat_append]; exact hown, hgrow⟩

theorem copiedG_any (a : Option Addr) (n cap : Nat) (ts : List (Int × Bool)) (w : World) (hI : GrAt w a n ts) (hn : n ≤ 2097152) :
    Calls Try.prog 75 #[.slice a n cap] w fun e w' => ∃ a' c', e = .returned (.slice a' n c') ∧ w'.ownsRow w.heap.size 44 2 (.slice a' n c') n (gflat ts) ∧ Below w.heap.size w w' := by
  obtain ⟨v, w', hr, ho, hg⟩ := append_grs w.heap.size (.slice none 0 0) 0 [] a n cap ts w (World.ownsRow_nil _ _ _ _) (Nat.le_refl _) hI (by omega)
  rw [Nat.zero_add, List.nil_append] at ho
  have hb : Below w.heap.size w w' := (Below.refl _ _).grown hg (Nat.le_refl _) (fun k hk => by cases hk)
  obtain ⟨a', c', rfl, _, _⟩ := ownG_of ho ts rfl
  have Hr := hidOf hr
  have HO := hidOf ho
  clear hr ho hI hg
  go_enter Try.func75, Try.ntmps75
  go_wp2_with (at_builtin; refine wpList_append_run rfl _ _ 25 rfl _ _ _ rfl rfl Hr.out ?_)
  go_ret
  exact ⟨_, _, rfl, HO.out, hb⟩

theorem own_farG {B : Nat} {w : World} {v : Value} {n : Nat} {t : TypeId} {xs : List Value} (h : w.ownsRow B t 2 v n xs) (b o : Nat) (hb : b < B) (x : Value) : (w.setCell ⟨b, o, none⟩ x).ownsRow B t 2 v n xs := by
  refine h.kept (row := some b) ⟨rfl, rfl, rfl, by simp, fun k _ hk => Below.heap_setCell _ _ _ _ (by rintro rfl; exact hk rfl)⟩ ?_
  cases e : v.ownBlock with
  | none => exact .inl rfl
  | some q => exact .inr (fun e' => by cases e'; have := (h.lt _ e).1; omega)
theorem ownsRow_mono {B B' : Nat} {w : World} {v : Value} {n : Nat} {t : TypeId} {xs : List Value} (h : w.ownsRow B t 2 v n xs) (hb : B' ≤ B) : w.ownsRow B' t 2 v n xs := by
  obtain ⟨hl, hn | ⟨g, cap, cur, rfl, hB, hr⟩⟩ := h
  · exact ⟨hl, .inl hn⟩
  · exact ⟨hl, .inr ⟨g, cap, cur, rfl, Nat.le_trans hb hB, hr⟩⟩
end Go.Proofs.Ytfgknbflgmblmaa
