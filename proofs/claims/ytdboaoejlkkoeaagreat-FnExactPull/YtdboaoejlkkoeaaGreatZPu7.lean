/-
  Which blocks a marking turns; what keeps, all the same
-/
import Derived.Test.YtdboaoejlkkoeaaGreatZPu5
namespace Go.Proofs.YtdboaoejlkkoeaaGreat
open Go.RowKit Pl Il
structure TurnL (ls : List (Option Addr × Nat)) (w w' : World) : Prop where
  os : w'.os = w.os
  tape : w'.tape = w.tape
  output : w'.output = w.output
  size : w.heap.size ≤ w'.heap.size
  block : ∀ k, k < w.heap.size → (∀ p, p ∈ ls → 0 < p.2 → ∀ off, p.1 ≠ some ⟨k, off, none⟩) → w'.heap[k]? = w.heap[k]?
theorem TurnL.refl (ls : List (Option Addr × Nat)) (w : World) : TurnL ls w w := ⟨rfl, rfl, rfl, Nat.le_refl _, fun _ _ _ => rfl⟩
theorem TurnL.trans {ls : List (Option Addr × Nat)} {w w1 w2 : World} (h : TurnL ls w w1) (h' : TurnL ls w1 w2) : TurnL ls w w2 :=
  ⟨h'.os.trans h.os, h'.tape.trans h.tape, h'.output.trans h.output, Nat.le_trans h.size h'.size, fun k hk hn => (h'.block k (Nat.lt_of_lt_of_le hk h.size) hn).trans (h.block k hk hn)⟩
theorem TurnL.mono {ls ms : List (Option Addr × Nat)} {w w' : World} (h : TurnL ls w w') (hs : ∀ p, p ∈ ls → p ∈ ms) : TurnL ms w w' :=
  ⟨h.os, h.tape, h.output, h.size, fun k hk hn => h.block k hk fun p hp => hn p (hs p hp)⟩
theorem TurnL.ofBelow {ls : List (Option Addr × Nat)} {w w' : World} (h : Below w.heap.size w w') : TurnL ls w w' := ⟨h.os, h.tape, h.output, h.size, fun k hk _ => h.block k hk⟩
theorem TurnL.ofGrown {a : Option Addr} {n b off : Nat} {w w' : World} (hn : 0 < n) (ha : a = some ⟨b, off, none⟩) (h : w.grownBy w' (some b)) : TurnL [(a, n)] w w' :=
  ⟨h.os, h.tape, h.output, h.size, fun k hk hne => h.block k hk (by
    intro e
    injection e with e
    subst e
    exact hne (a, n) (by simp) hn off ha)⟩
theorem TurnL.ofF {a : Option Addr} {n : Nat} {w w' : World} (h : TurnF a n w w') : TurnL [(a, n)] w w' := by
  rcases h with ⟨_, h⟩ | ⟨hn, b, off, ha, h⟩
  · exact TurnL.ofBelow h
  · exact TurnL.ofGrown hn ha h
theorem TurnL.ofI {a : Option Addr} {n : Nat} {w w' : World} (h : n = 0 ∧ w' = w ∨ 0 < n ∧ ∃ b off, a = some ⟨b, off, none⟩ ∧ w.grownBy w' (some b)) : TurnL [(a, n)] w w' := by
  rcases h with ⟨_, rfl⟩ | ⟨hn, b, off, ha, h⟩
  · exact TurnL.refl _ _
  · exact TurnL.ofGrown hn ha h
theorem TurnL.below {ls : List (Option Addr × Nat)} {w w' : World} {B : Nat} (h : TurnL ls w w') (hB : B ≤ w.heap.size) (hl : ∀ p, p ∈ ls → Abv p.1 p.2 B) : Below B w w' :=
  ⟨h.os, h.tape, h.output, h.size, fun k hk => h.block k (by omega) fun p hp h0 off e => by
    rcases hl p hp with q | q
    · omega
    · have := q _ _ e; omega⟩
theorem TurnL.keepB {ls : List (Option Addr × Nat)} {w w' : World} (h : TurnL ls w w') {b off n : Nat} (hb : b < w.heap.size) (hn : 0 < n) (hf : ∀ p, p ∈ ls → Far p.1 p.2 (some ⟨b, off, none⟩) n) : w'.heap[b]? = w.heap[b]? :=
  h.block b hb fun p hp h0 off' e => by
    rcases hf p hp with q | q | q
    · omega
    · omega
    · exact q b off' b off e rfl rfl
theorem TmAt.turn {ls : List (Option Addr × Nat)} {w w' : World} {a : Option Addr} {n : Nat} {ts : List Tm} (h : TmAt w a n ts) (ht : TurnL ls w w') (hf : ∀ p, p ∈ ls → Far p.1 p.2 a n) : TmAt w' a n ts := by
  refine ⟨h.len, h.short, ?_⟩
  rcases Nat.eq_zero_or_pos n with h0 | h0
  · exact .inl h0
  rcases h.row with k | ⟨b, off, rfl, hlt, hc⟩
  · exact .inl k
  · have key := ht.keepB hlt h0 hf
    refine .inr ⟨b, off, rfl, Nat.lt_of_lt_of_le hlt ht.size, fun i hi => ?_⟩
    obtain ⟨h1, h2, h3⟩ := hc i hi
    exact ⟨by rw [← h1]; exact World.cell?_of_block key, by rw [← h2]; exact World.cell?_of_block key, by rw [← h3]; exact World.cell?_of_block key⟩
theorem OwnF.turn {ls : List (Option Addr × Nat)} {B : Nat} {w w' : World} {a : Option Addr} {n : Nat} {ts : List Tm} (h : OwnF B w a n ts) (ht : TurnL ls w w') (hf : ∀ p, p ∈ ls → Far p.1 p.2 a n) : OwnF B w' a n ts := by
  refine ⟨h.tm.turn ht hf, ?_⟩
  rcases Nat.eq_zero_or_pos n with h0 | h0
  · exact .inl h0
  rcases h.own with k | ⟨b, off, rfl, hB, hfr⟩
  · exact .inl k
  rcases h.tm.row with k | ⟨b', off', e, hlt, _⟩
  · exact .inl k
  · cases e
    have key := ht.keepB hlt h0 hf
    exact .inr ⟨b, off, rfl, hB, fun o => by rw [← hfr o]; exact World.frozen?_of_block key⟩
theorem IntsAt.turn {ls : List (Option Addr × Nat)} {w w' : World} {a : Option Addr} {n : Nat} {xs : List Int} (h : IntsAt w a n xs) (ht : TurnL ls w w') (hf : ∀ p, p ∈ ls → Far p.1 p.2 a n) : IntsAt w' a n xs := by
  refine ⟨h.len, ?_⟩
  rcases Nat.eq_zero_or_pos n with h0 | h0
  · exact .inl h0
  rcases h.row with k | ⟨b, off, rfl, hlt, hc⟩
  · exact .inl k
  · have key := ht.keepB hlt h0 hf
    exact .inr ⟨b, off, rfl, Nat.lt_of_lt_of_le hlt ht.size, fun i hi => by rw [← hc i hi]; exact World.cell?_of_block key⟩
theorem Il.OwnAt.turn {ls : List (Option Addr × Nat)} {B : Nat} {w w' : World} {a : Option Addr} {n : Nat} {xs : List Int} (h : Il.OwnAt B w a n xs) (ht : TurnL ls w w') (hf : ∀ p, p ∈ ls → Far p.1 p.2 a n) : Il.OwnAt B w' a n xs := by
  refine ⟨IntsAt.turn h.ints ht hf, ?_⟩
  rcases Nat.eq_zero_or_pos n with h0 | h0
  · exact .inl h0
  rcases h.own with k | ⟨b, off, rfl, hB, hfr⟩
  · exact .inl k
  rcases h.ints.row with k | ⟨b', off', e, hlt, _⟩
  · exact .inl k
  · cases e
    have key := ht.keepB hlt h0 hf
    exact .inr ⟨b, off, rfl, hB, fun i hi => by rw [← hfr i hi]; exact World.frozen?_of_block key⟩
theorem SubAt.turn {ls : List (Option Addr × Nat)} {w w' : World} {a : Option Addr} {n : Nat} {xs : List Sa} (h : SubAt w a n xs) (ht : TurnL ls w w') (hf : ∀ p, p ∈ ls → Far p.1 p.2 a n) (hx : ∀ x, x ∈ xs → ∀ p, p ∈ ls → Far p.1 p.2 x.a x.n) : SubAt w' a n xs := by
  refine ⟨h.len, fun x hm => (h.fil x hm).turn ht (hx x hm), ?_⟩
  rcases Nat.eq_zero_or_pos n with h0 | h0
  · exact .inl h0
  rcases h.row with k | ⟨b, off, rfl, hlt, hc⟩
  · exact .inl k
  · have key := ht.keepB hlt h0 hf
    exact .inr ⟨b, off, rfl, Nat.lt_of_lt_of_le hlt ht.size, fun i hi => (hc i hi).same fun j _ => World.cell?_of_block key⟩
theorem OwnS.turn {ls : List (Option Addr × Nat)} {B : Nat} {w w' : World} {a : Option Addr} {n : Nat} {xs : List Sa} (h : OwnS B w a n xs) (ht : TurnL ls w w') (hf : ∀ p, p ∈ ls → Far p.1 p.2 a n) (hx : ∀ x, x ∈ xs → ∀ p, p ∈ ls → Far p.1 p.2 x.a x.n) : OwnS B w' a n xs := by
  refine ⟨h.sub.turn ht hf hx, ?_, fun x hm => (h.fow x hm).turn ht (hx x hm), h.apt, h.apa⟩
  rcases Nat.eq_zero_or_pos n with h0 | h0
  · exact .inl h0
  rcases h.own with k | ⟨b, off, rfl, hB, hfr⟩
  · exact .inl k
  rcases h.sub.row with k | ⟨b', off', e, hlt, _⟩
  · exact .inl k
  · cases e
    have key := ht.keepB hlt h0 hf
    exact .inr ⟨b, off, rfl, hB, fun o => by rw [← hfr o]; exact World.frozen?_of_block key⟩
def mkSa (k : Nat) (x : Sa) : Sa := ⟨⟨(k : Int), ((k + 1 : Nat) : Int), ((k + 2 : Nat) : Int), ((k + 3 : Nat) : Int), ((k + 4 : Nat) : Int), ((k + 5 : Nat) : Int), marksF (k + 6) x.n⟩, x.a, x.n, x.c⟩
def cntS (xs : List Sa) : Nat := xs.foldl (fun a x => a + (6 + 3 * x.n)) 0
def mkSs (k : Nat) (xs : List Sa) : List Sa := (List.range xs.length).map fun i => mkSa (k + cntS (xs.take i)) (sg xs i)
theorem mkSs_len (k : Nat) (xs : List Sa) : (mkSs k xs).length = xs.length := by simp [mkSs]
theorem mkSs_get {k : Nat} {xs : List Sa} {i : Nat} (h : i < xs.length) : sg (mkSs k xs) i = mkSa (k + cntS (xs.take i)) (sg xs i) := by
  rw [sg_eq (by rw [mkSs_len]; exact h)]
  simp [mkSs]
theorem cntS_next {xs : List Sa} {i : Nat} (h : i < xs.length) : cntS (xs.take (i + 1)) = cntS (xs.take i) + (6 + 3 * (sg xs i).n) := by
  unfold cntS
  rw [List.take_succ_eq_append_getElem h, List.foldl_append, sg_eq h]
  rfl
theorem cntS_le {xs : List Sa} {K : Nat} (h : ∀ x, x ∈ xs → x.n ≤ K) : ∀ i : Nat, cntS (xs.take i) ≤ i * (6 + 3 * K)
  | 0 => by simp [cntS]
  | i + 1 => by
    have ih := cntS_le h i
    rw [Nat.succ_mul]
    rcases Nat.lt_or_ge i xs.length with hi | hi
    · rw [cntS_next hi]
      have := h _ (sg_mem hi)
      omega
    · rw [List.take_of_length_le (by omega)]
      rw [List.take_of_length_le hi] at ih
      omega
def mkTo (k m : Nat) (xs : List Sa) : List Sa := (List.range xs.length).map fun i => if i < m then mkSa (k + cntS (xs.take i)) (sg xs i) else sg xs i
theorem mkTo_len (k m : Nat) (xs : List Sa) : (mkTo k m xs).length = xs.length := by simp [mkTo]
theorem mkTo_get {k m : Nat} {xs : List Sa} {i : Nat} (h : i < xs.length) : sg (mkTo k m xs) i = if i < m then mkSa (k + cntS (xs.take i)) (sg xs i) else sg xs i := by
  rw [sg_eq (by rw [mkTo_len]; exact h)]
  simp [mkTo]
theorem mkTo_zero (k : Nat) (xs : List Sa) : mkTo k 0 xs = xs := by
  refine List.ext_getElem (mkTo_len _ _ _) fun i h1 h2 => ?_
  rw [← sg_eq h1, ← sg_eq h2, mkTo_get h2]
  simp
theorem mkTo_all (k : Nat) (xs : List Sa) : mkTo k xs.length xs = mkSs k xs := by
  refine List.ext_getElem (by rw [mkTo_len, mkSs_len]) fun i h1 h2 => ?_
  have h3 : i < xs.length := by rw [mkTo_len] at h1; exact h1
  rw [← sg_eq h1, ← sg_eq h2, mkTo_get h3, mkSs_get h3, if_pos h3]
theorem mkTo_mem {k m : Nat} {xs : List Sa} {y : Sa} (h : y ∈ mkTo k m xs) : ∃ i, i < xs.length ∧ y.a = (sg xs i).a ∧ y.n = (sg xs i).n ∧ y = sg (mkTo k m xs) i := by
  obtain ⟨i, hi, rfl⟩ := List.getElem_of_mem h
  rw [mkTo_len] at hi
  refine ⟨i, hi, ?_, ?_, (sg_eq _).symm⟩
  · rw [← sg_eq (by rw [mkTo_len]; exact hi), mkTo_get hi]
    split <;> rfl
  · rw [← sg_eq (by rw [mkTo_len]; exact hi), mkTo_get hi]
    split <;> rfl
theorem mkTo_same {k m : Nat} {xs : List Sa} {i : Nat} (h : i < xs.length) : (sg (mkTo k m xs) i).a = (sg xs i).a ∧ (sg (mkTo k m xs) i).n = (sg xs i).n := by
  rw [mkTo_get h]
  split <;> exact ⟨rfl, rfl⟩
end Go.Proofs.YtdboaoejlkkoeaaGreat
