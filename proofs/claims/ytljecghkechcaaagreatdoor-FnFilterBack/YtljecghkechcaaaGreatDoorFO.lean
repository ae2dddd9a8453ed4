/-
  Both filters, the other filter: plain mathematics, and the two sides' walks.
-/
import Derived.Test.YtljecghkechcaaaGreatDoorFC
import Derived.Test.YtljecghkechcaaaGreatDoorBF5
import Derived.Test.YtljecghkechcaaaGreatDoorSpF1
namespace Go.Proofs.YtljecghkechcaaaGreatDoor
open Go.RowKit Pl Il

def bothM (f g : List Tm) : Option (List Tm) :=
  if okF f = false then none else if okF g = false then none else if f = [] then some g else if g = [] then some f else if f.length + g.length + 1 ≤ 12 then some (f ++ g ++ [(9, 0, noT)]) else none
def otherM (f : List Tm) : Option (List Tm) :=
  if okF f = false then none else if f.length + 1 ≤ 12 then some ((if f = [] then [(1, 0, noT)] else f) ++ [(8, 0, noT)]) else none
theorem okF_le {f : List Tm} (h : okF f = true) : f.length ≤ 12 := by
  simp [okF] at h; exact h.1
/-- A list and a truth value answered, the list in new memory. -/
def OutF (w : World) (r : Option (List Tm)) (e : Ending) (w' : World) : Prop :=
  ∃ a n c, e = .returned (.tuple #[.slice a n c, .bool r.isSome]) ∧ n ≤ c ∧ n ≤ 64 ∧ OwnF w.heap.size w' a n (r.getD []) ∧ Below w.heap.size w w'
theorem OutF.none {w w' : World} {r : Option (List Tm)} (hr : r = .none) (hb : Below w.heap.size w w') : OutF w r (.returned (.tuple #[.slice none 0 0, .bool false])) w' := by
  subst hr
  exact ⟨_, 0, 0, rfl, Nat.le_refl _, by omega, ⟨TmAt.nil _ _, .inl rfl⟩, hb⟩
theorem ofk (op : Int) : ∀ p, p ∈ [((op, 0, noT) : Tm)] → p.2.2.size ≤ maxLen := fun p hp => by
  simp only [List.mem_singleton] at hp
  subst hp
  exact Nat.zero_le _
/-- One term is appended to an own row. -/
theorem append_tm1 (B m : Nat) (v : Value) (ys : List Tm) (op : Int) (w : World) (ho : w.ownsRow B 38 3 v m (qflat ys)) (hB : B ≤ w.heap.size) (hs : m + 1 ≤ 4194304) :
    ∃ (v' : Value) (w' : World), (Builtin.append_ #[24, 24] 24 #[v, .slice (some ⟨w.heap.size, 0, none⟩) 1 1]).run Tryz.prog (w.alloc (.cells #[.int .i64 op, .int .i64 0, .string ⟨#[]⟩] 38)) = .ok v' w' ∧
      w'.ownsRow B 38 3 v' (m + 1) (qflat (ys ++ [(op, 0, noT)])) ∧ w.grownBy w' v.ownBlock := by
  have hI : TmAt (w.alloc (.cells #[.int .i64 op, .int .i64 0, .string ⟨#[]⟩] 38)) (some ⟨w.heap.size, 0, none⟩) 1 [(op, 0, noT)] :=
    ⟨rfl, ofk op, .inr ⟨w.heap.size, 0, rfl, by simp, fun i hi => by
      obtain rfl : i = 0 := by omega
      simp [qg, noT]⟩⟩
  have hb0 : Below w.heap.size w (w.alloc (.cells #[.int .i64 op, .int .i64 0, .string ⟨#[]⟩] 38)) := bl_alloc (Below.refl _ _) _
  obtain ⟨v', w', hr, ho', hg⟩ := append_tms B v m ys _ 1 1 [(op, 0, noT)] _ (ho.alloc _) (by simp; omega) hI (by omega)
  refine ⟨v', w', hr, ho', ?_⟩
  exact ⟨hg.os.trans hb0.os, hg.tape.trans hb0.tape, hg.output.trans hb0.output, Nat.le_trans hb0.size hg.size, fun k hk hne => (hg.block k (Nat.lt_of_lt_of_le hk hb0.size) hne).trans (hb0.block k hk)⟩
theorem rowF_below {B : Nat} {w0 w w' : World} {v : Value} {n : Nat} {t : TypeId} {xs : List Value} (h : Below B w0 w) (ho : w.ownsRow B t 3 v n xs) (hg : w.grownBy w' v.ownBlock) (hB : B ≤ w.heap.size) : Below B w0 w' :=
  h.grown hg hB (fun k hk => (ho.lt k hk).1)
theorem rowF_keep {B : Nat} {w w' : World} {v : Value} {n : Nat} {t : TypeId} {xs : List Value} (h : w.ownsRow B t 3 v n xs) (hb : Below w.heap.size w w') : w'.ownsRow B t 3 v n xs := by
  refine h.kept (row := none) ⟨hb.os, hb.tape, hb.output, hb.size, fun k hk _ => hb.block k hk⟩ ?_
  cases v.ownBlock with
  | none => exact .inl rfl
  | some _ => exact .inr (by simp)
/-- What lies below stays, whatever is appended to a row from B on. -/
theorem TmAt.grown {B : Nat} {w w' : World} {v : Value} {m : Nat} {t : TypeId} {xs : List Value} {a : Option Addr} {n : Nat} {ts : List Tm} (h : TmAt w a n ts) (ho : w.ownsRow B t 3 v m xs) (hg : w.grownBy w' v.ownBlock) (hB : B ≤ w.heap.size) (hlt : n = 0 ∨ ∀ b off, a = some ⟨b, off, none⟩ → b < B) : TmAt w' a n ts :=
  h.below (rowF_below (Below.refl B w) ho hg hB) hlt
theorem OutF.some {w w' : World} {r : Option (List Tm)} {l : List Tm} {v : Value} {n : Nat} (hr : r = .some l) (hs : ∀ p, p ∈ l → p.2.2.size ≤ maxLen) (ho : w'.ownsRow w.heap.size 38 3 v n (qflat l)) (hn : n ≤ 64) (hb : Below w.heap.size w w') : OutF w r (.returned (.tuple #[v, .bool true])) w' := by
  subst hr
  obtain ⟨a, c, rfl, hc, h⟩ := ownF_of ho l rfl hs
  exact ⟨a, n, c, rfl, hc, hn, h, hb⟩
theorem short_snoc {l : List Tm} {op : Int} (h : ∀ p, p ∈ l → p.2.2.size ≤ maxLen) : ∀ p, p ∈ l ++ [(op, 0, noT)] → p.2.2.size ≤ maxLen := fun p hp => by
  rcases List.mem_append.1 hp with hp | hp
  · exact h p hp
  · exact ofk op p hp
theorem short_app {l m : List Tm} (h : ∀ p, p ∈ l → p.2.2.size ≤ maxLen) (k : ∀ p, p ∈ m → p.2.2.size ≤ maxLen) : ∀ p, p ∈ l ++ m → p.2.2.size ≤ maxLen := fun p hp => by
  rcases List.mem_append.1 hp with hp | hp
  · exact h p hp
  · exact k p hp
theorem slice_form {B : Nat} {w : World} {t : TypeId} {v : Value} {n : Nat} {l : List Tm} (ho : w.ownsRow B t 3 v n (qflat l)) : ∃ a c, v = .slice a n c := by
  obtain ⟨_, ⟨rfl, rfl⟩ | ⟨g, cp, cur, rfl, _⟩⟩ := ho
  · exact ⟨_, _, rfl⟩
  · exact ⟨_, _, rfl⟩
theorem other_no {f : List Tm} (h : okF f = false) : otherM f = none := by unfold otherM; rw [if_pos h]
theorem other_long {f : List Tm} (h : okF f = true) (hl : ¬ f.length + 1 ≤ 12) : otherM f = none := by unfold otherM; rw [if_neg (by rw [h]; simp), if_neg hl]
theorem other_nil : otherM [] = some ([(1, 0, noT)] ++ [(8, 0, noT)]) := rfl
theorem other_some {f : List Tm} (h : okF f = true) (hl : f.length + 1 ≤ 12) (h0 : f ≠ []) : otherM f = some (f ++ [(8, 0, noT)]) := by unfold otherM; rw [if_neg (by rw [h]; simp), if_pos hl, if_neg h0]
theorem both_no1 {f g : List Tm} (h : okF f = false) : bothM f g = none := by unfold bothM; rw [if_pos h]
theorem both_no2 {f g : List Tm} (h0 : okF f = true) (h : okF g = false) : bothM f g = none := by unfold bothM; rw [if_neg (by rw [h0]; simp), if_pos h]
theorem both_one {f g : List Tm} (h0 : okF f = true) (h1 : okF g = true) (h : f = [] ∨ g = []) : bothM f g = some (f ++ g) := by
  unfold bothM
  rw [if_neg (by rw [h0]; simp), if_neg (by rw [h1]; simp)]
  rcases h with rfl | rfl
  · simp
  · by_cases hf : f = []
    · subst hf; simp
    · simp [hf]
theorem both_long {f g : List Tm} (h0 : okF f = true) (h1 : okF g = true) (hf : f ≠ []) (hg : g ≠ []) (hl : ¬ f.length + g.length + 1 ≤ 12) : bothM f g = none := by
  unfold bothM
  rw [if_neg (by rw [h0]; simp), if_neg (by rw [h1]; simp), if_neg hf, if_neg hg, if_neg hl]
theorem both_some {f g : List Tm} (h0 : okF f = true) (h1 : okF g = true) (hf : f ≠ []) (hg : g ≠ []) (hl : f.length + g.length + 1 ≤ 12) : bothM f g = some (f ++ g ++ [(9, 0, noT)]) := by
  unfold bothM
  rw [if_neg (by rw [h0]; simp), if_neg (by rw [h1]; simp), if_neg hf, if_neg hg, if_pos hl]
end Go.Proofs.YtljecghkechcaaaGreatDoor
