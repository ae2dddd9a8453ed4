/-
  The program's notifications: grants made of the first in line, a telli
-/
import Derived.Test.YtfgknbflgmblmaaZPq3
namespace Go.Proofs.Ytfgknbflgmblmaa
open Go.RowKit Go.Maps Pl Il
/-- One grant is appended to an own row; where the row lies then. -/
theorem append_gr2 (B m : Nat) (v : Value) (ys : List (Int × Bool)) (x : Int) (b : Bool) (w : World) (ho : w.ownsRow B 44 2 v m (gflat ys)) (hB : B ≤ w.heap.size) (hs : m + 1 ≤ 4194304) :
    ∃ (g' c' : Nat) (w' : World), (Builtin.append_ #[25, 25] 25 #[v, .slice (some ⟨w.heap.size, 0, none⟩) 1 1]).run Try.prog (w.alloc (.cells #[.int .i64 x, .bool b] 44)) = .ok (.slice (some ⟨g', 0, none⟩) (m + 1) c') w' ∧
      w'.ownsRow B 44 2 (.slice (some ⟨g', 0, none⟩) (m + 1) c') (m + 1) (gflat (ys ++ [(x, b)])) ∧ w.grownBy w' v.ownBlock ∧ (v.ownBlock = some g' ∨ w.heap.size ≤ g') := by
  obtain ⟨i, hi, hz0, hz1, hz2⟩ := info_parts infoGc
  obtain ⟨g', c', w', hr, hown, hgrow, hl, _⟩ := run_append_lies (P := Try.prog) (w.alloc (.cells #[.int .i64 x, .bool b] 44)) 25 25 B 44 i (.agg #[.int .i64 0, .bool false]) 2 16 Try.underlying25 hi hz0 hz1 hz2 rfl (by omega) v m _ (ho.alloc _) ⟨w.heap.size, 0, none⟩ 1 1 [.int .i64 x, .bool b] rfl
    (fun j u h => by
      match j with
      | 0 => simp at h; subst h; simp [Addr.add]
      | 1 => simp at h; subst h; simp [Addr.add]
      | j + 2 => simp at h)
    (fun u hu => by simp at hu; rcases hu with rfl | rfl <;> rfl) (by omega) (by unfold maxLen; omega) (by omega) (by simp; omega) _ rfl
  refine ⟨g', c', w', hr, by rw [gflat_append]; exact hown, (World.grownBy_alloc w _ _).trans hgrow, ?_⟩
  rcases hl with h | h
  · exact .inl h
  · right; subst h; simp
theorem Il.OwnAt.of_block {B : Nat} {w w' : World} {a : Option Addr} {n : Nat} {xs : List Int} (h : Il.OwnAt B w a n xs) (hs : w.heap.size ≤ w'.heap.size) (hk : n = 0 ∨ ∀ b off, a = some ⟨b, off, none⟩ → w'.heap[b]? = w.heap[b]?) : Il.OwnAt B w' a n xs := by
  obtain ⟨⟨hl, hr⟩, ho⟩ := h
  rcases hk with h0 | hk
  · exact ⟨⟨hl, .inl h0⟩, .inl h0⟩
  · rcases hr with h0 | ⟨b1, off, rfl, hlt, hc⟩
    · exact ⟨⟨hl, .inl h0⟩, .inl h0⟩
    · have key := hk _ _ rfl
      rcases ho with h0 | ⟨b', off', e, hB, hf⟩
      · exact ⟨⟨hl, .inl h0⟩, .inl h0⟩
      · cases e
        refine ⟨⟨hl, .inr ⟨b1, off, rfl, Nat.lt_of_lt_of_le hlt hs, fun i hi => ?_⟩⟩, .inr ⟨b1, off, rfl, hB, fun i hi => ?_⟩⟩
        · rw [← hc i hi]; exact World.cell?_of_block key
        · rw [← hf i hi]; exact World.frozen?_of_block key
theorem NBox.lists {N : Nat} {A : Na} {x : Nt} {w : World} (h : NBox N A x w) (ln : List Int) (gs : List (Int × Bool)) : NBox N A { x with ln := ln, gs := gs } w := ⟨h.lt, h.c0, h.c1, h.c2, h.c3, h.c4, h.c5, h.fr⟩
theorem own_set {B s : Nat} {w : World} {v : Value} {n : Nat} {t : TypeId} {xs : List Value} (h : w.ownsRow B t s v n xs) (N o : Nat) (hne : v.ownBlock ≠ some N) (x : Value) : (w.setCell ⟨N, o, none⟩ x).ownsRow B t s v n xs := by
  refine h.kept (row := some N) ⟨rfl, rfl, rfl, by simp, fun k _ hk => Below.heap_setCell _ _ _ _ (by rintro rfl; exact hk rfl)⟩ ?_
  cases e : v.ownBlock with
  | none => exact .inl rfl
  | some q => exact .inr (fun e' => hne (by rw [e, e']))
/-- A notification in a variable of its own, its lists in memory of its own. -/
structure NSt (B N : Nat) (A : Na) (x : Nt) (w : World) : Prop where
  box : NBox N A x w
  ge : B ≤ N
  one : Il.OwnAt B w A.a A.n x.ln
  cap : A.n ≤ A.c
  two : w.ownsRow B 44 2 (.slice A.a' A.n' A.c') A.n' (gflat x.gs)
  ne1 : A.n = 0 ∨ ∀ b off, A.a = some ⟨b, off, none⟩ → b ≠ N
  ne2 : (Value.slice A.a' A.n' A.c').ownBlock ≠ some N
  apart : A.n = 0 ∨ ∀ b off, A.a = some ⟨b, off, none⟩ → (Value.slice A.a' A.n' A.c').ownBlock ≠ some b
/-- A list apart from a notification in a variable of its own. -/
def FarL (N : Nat) (A : Na) (a : Option Addr) (m : Nat) : Prop :=
  m = 0 ∨ ∀ b off, a = some ⟨b, off, none⟩ → b ≠ N ∧ (A.n = 0 ∨ ∀ b' off', A.a = some ⟨b', off', none⟩ → b ≠ b') ∧ (Value.slice A.a' A.n' A.c').ownBlock ≠ some b
/-- While grants are made of those who were woken. -/
structure GF (B N s0 s1 : Nat) (q0 : Option Nat) (w : World) (A : Na) (x : Nt) (a2 : Option Addr) (m2 : Nat) (out : List Int) (wr : World) : Prop where
  box : NBox N A x wr
  one : Il.OwnAt B wr A.a A.n x.ln
  out : Il.OwnAt B wr a2 m2 out
  two : wr.ownsRow B 44 2 (.slice A.a' A.n' A.c') A.n' (gflat x.gs)
  loc : ∀ q, (Value.slice A.a' A.n' A.c').ownBlock = some q → q ≠ N ∧ (q < s0 ∧ q0 = some q ∨ s1 ≤ q)
  oth : ∀ k, k < s0 → k ≠ N → q0 ≠ some k → wr.heap[k]? = w.heap[k]?
  below : Below B w wr
  sz : s1 ≤ wr.heap.size
theorem GF.nx {B N s0 s1 : Nat} {q0 : Option Nat} {w : World} {A : Na} {x : Nt} {a2 : Option Addr} {m2 : Nat} {out : List Int} {wr w' : World} {y : Int} {b : Bool} {g' c' : Nat} (h : GF B N s0 s1 q0 w A x a2 m2 out wr) (h01 : s0 ≤ s1) (hN : B ≤ N) (hNs : N < s0) 
    (l1 : A.n = 0 ∨ ∀ b off, A.a = some ⟨b, off, none⟩ → s0 ≤ b ∧ b < s1) (l2 : m2 = 0 ∨ ∀ b off, a2 = some ⟨b, off, none⟩ → s0 ≤ b ∧ b < s1)
    (ho : w'.ownsRow B 44 2 (.slice (some ⟨g', 0, none⟩) (A.n' + 1) c') (A.n' + 1) (gflat (x.gs ++ [(y, b)]))) (hg : wr.grownBy w' (Value.slice A.a' A.n' A.c').ownBlock) (hl : (Value.slice A.a' A.n' A.c').ownBlock = some g' ∨ wr.heap.size ≤ g') :
    NBox N A x w' ∧ GF B N s0 s1 q0 w { A with a' := some ⟨g', 0, none⟩, n' := A.n' + 1, c' := c' } { x with gs := x.gs ++ [(y, b)] } a2 m2 out (w'.setCell ⟨N, 2, none⟩ (.slice (some ⟨g', 0, none⟩) (A.n' + 1) c')) := by
  have hs := hg.size
  have hsz := h.sz
  have hNw := h.box.lt
  have hb' : NBox N A x w' := h.box.grownO hg (fun e => (h.loc _ e).1 rfl)
  have blk : ∀ k, k < wr.heap.size → k ≠ N → (Value.slice A.a' A.n' A.c').ownBlock ≠ some k → (w'.setCell ⟨N, 2, none⟩ (.slice (some ⟨g', 0, none⟩) (A.n' + 1) c')).heap[k]? = wr.heap[k]? := fun k hk hne hq => by
    rw [Below.heap_setCell w' ⟨N, 2, none⟩ _ k hne]; exact hg.block k hk (fun e => hq e.symm)
  have far : ∀ k, s0 ≤ k → k < s1 → (Value.slice A.a' A.n' A.c').ownBlock ≠ some k := fun k h1 h2 e => by
    rcases (h.loc _ e).2 with h3 | h3 <;> omega
  have oq : ∀ k, k < s0 → q0 ≠ some k → (Value.slice A.a' A.n' A.c').ownBlock ≠ some k := fun k hk hq e => by
    rcases (h.loc _ e).2 with h3 | h3
    · exact hq h3.2
    · omega
  refine ⟨hb', ⟨hb'.set2.lists _ _, ?_, ?_, own_set ho N 2 ?_ _, ?_, fun k hk hne hq => (blk k (by omega) hne (oq k hk hq)).trans (h.oth k hk hne hq), ?_, by simp; omega⟩⟩
  · refine h.one.of_block (by simpa using hs) (l1.imp id fun l b off e => ?_)
    obtain ⟨h1, h2⟩ := l b off e
    exact blk b (by omega) (by omega) (far b h1 h2)
  · refine h.out.of_block (by simpa using hs) (l2.imp id fun l b off e => ?_)
    obtain ⟨h1, h2⟩ := l b off e
    exact blk b (by omega) (by omega) (far b h1 h2)
  · intro e
    have e' : g' = N := by simpa [Value.ownBlock] using e
    rcases hl with hl | hl
    · exact (h.loc _ hl).1 e'
    · omega
  · intro q e
    have e' : g' = q := by simpa [Value.ownBlock] using e
    subst e'
    rcases hl with hl | hl
    · exact h.loc _ hl
    · exact ⟨by omega, .inr (by omega)⟩
  · exact bl_set1' (h.below.grown hg (Nat.le_of_lt (Nat.lt_of_le_of_lt hN hNw)) (fun k hk => (h.two.lt k hk).1)) N 2 hN _
/-- What was there, but for the variable and the row of grants, is as it was; the line is new, the row of grants is the one that was, or new. -/
structure NOth (N : Nat) (A : Na) (w : World) (A' : Na) (w' : World) : Prop where
  blk : ∀ k, k < w.heap.size → k ≠ N → (Value.slice A.a' A.n' A.c').ownBlock ≠ some k → w'.heap[k]? = w.heap[k]?
  line : A'.n = 0 ∨ ∀ b off, A'.a = some ⟨b, off, none⟩ → w.heap.size ≤ b
  row : ∀ q, (Value.slice A'.a' A'.n' A'.c').ownBlock = some q → (Value.slice A.a' A.n' A.c').ownBlock = some q ∨ w.heap.size ≤ q
set_option maxHeartbeats 2000000 in
theorem grantFirst_fr (B N : Nat) (A : Na) (x : Nt) (k : Int) (one : Bool) (w : World) (hS : NSt B N A x w) (hn : A.n ≤ 2097152) (hn' : A.n' ≤ 2097152) (hw : wfL x.ln) :
  Calls Try.prog 42 #[.pointer (some ⟨N, 0, none⟩), .int .i64 k, .bool one] w fun e w' => ∃ A' a m c, e = .returned (.slice a m c) ∧ NSt B N A' { x with ln := wakeRest x.ln k, gs := x.gs ++ (wakeOut x.ln k).map fun y => (y, one) } w' ∧ Il.OwnAt B w' a m (wakeOut x.ln k) ∧ FarL N A' a m ∧ Below B w w' ∧ NOth N A w A' w' := by
 obtain ⟨hlt, p0, p1, p2, p3, p4, p5, pf⟩ := id hS.box
 have HS := hidOf hS
 clear hS
 go_enter Try.func42, Try.ntmps42
 go_wp2_with fail
 refine (implWake_any2 A.a A.n A.c x.ln k _ HS.out.one.ints hn hw).mono ?_
 rintro e w1 ⟨a1, m1, c1, a2, m2, c2, rfl, hAp, hcp⟩
 obtain ⟨_, q0, q1, q2, q3, q4, q5, qf⟩ := HS.out.box.keep hAp.below
 have hge := HS.out.ge
 have hsp1 : m1 = 0 ∨ ∀ b off, a1 = some ⟨b, off, none⟩ → w.heap.size ≤ b ∧ b < w1.heap.size := by
  rcases hAp.one.ints.row with h0 | ⟨b, off, rfl, hl, _⟩
  ·exact .inl h0
  ·rcases hAp.one.own with h0 | ⟨b', off', e, hB, _⟩
   ·exact .inl h0
   ·cases e; exact .inr fun b1 o1 e => by cases e; exact ⟨hB, hl⟩
 have hsp2 : m2 = 0 ∨ ∀ b off, a2 = some ⟨b, off, none⟩ → w.heap.size ≤ b ∧ b < w1.heap.size := by
  rcases hAp.two.ints.row with h0 | ⟨b, off, rfl, hl, _⟩
  ·exact .inl h0
  ·rcases hAp.two.own with h0 | ⟨b', off', e, hB, _⟩
   ·exact .inl h0
   ·cases e; exact .inr fun b1 o1 e => by cases e; exact ⟨hB, hl⟩
 have hsz := hAp.below.size
 have hG0 : GF B N w.heap.size w1.heap.size (Value.slice A.a' A.n' A.c').ownBlock w { A with a := a1, n := m1, c := c1 } { x with ln := wakeRest x.ln k } a2 m2 (wakeOut x.ln k) (w1.setCell ⟨N, 1, none⟩ (.slice a1 m1 c1)) := by
  refine ⟨(HS.out.box.keep hAp.below).set1.lists _ _, ?_, ?_, own_set (ownsRow_keep HS.out.two hAp.below) N 1 HS.out.ne2 _, ?_, fun k hk hne _ => by rw [Below.heap_setCell w1 ⟨N, 1, none⟩ _ k hne]; exact hAp.below.block k hk, ?_, by simp⟩
  ·refine (hAp.one.mono (by omega)).of_block (by simp) (hsp1.imp id fun l b off e => ?_)
   have := l b off e
   exact Below.heap_setCell w1 ⟨N, 1, none⟩ _ b (by simp only; omega)
  ·refine (hAp.two.mono (by omega)).of_block (by simp) (hsp2.imp id fun l b off e => ?_)
   have := l b off e
   exact Below.heap_setCell w1 ⟨N, 1, none⟩ _ b (by simp only; omega)
  ·intro q e
   refine ⟨fun e' => HS.out.ne2 (by rw [← e']; exact e), .inl ⟨?_, e⟩⟩
   exact (HS.out.two.lt q e).2
  ·exact bl_set1' (hAp.below.mono (by omega)) N 1 hge _
 have hApt := hAp.apart
 have HG0 := hidOf hG0
 have HApt := hidOf hApt
 have hlo := hAp.two.ints.len
 have HLo := hidOf hlo
 have hob : (wakeOut x.ln k).length ≤ A.n := by
  rw [← HS.out.one.ints.len]
  unfold wakeOut
  split
  ·simp; omega
  ·simp
 clear hAp hG0 hApt p0 p1 p2 p3 p4 p5 HS
 generalize hout : wakeOut x.ln k = out at *
 generalize hrest : wakeRest x.ln k = rest at *
 have HOut := hidOf hout
 have HRest := hidOf hrest
 clear hout hrest
 go_wp2_with fail
 go_loopw [26] (fun i wr => ∃ (j : Nat) (A' : Na), j ≤ m2 ∧ i = .int .i64 j ∧ A'.a = a1 ∧ A'.n = m1 ∧ A'.c = c1 ∧ A'.n' = A.n' + j ∧ GF B N w.heap.size w1.heap.size (Value.slice A.a' A.n' A.c').ownBlock w A' { x with ln := rest, gs := x.gs ++ (out.take j).map fun y => (y, one) } a2 m2 out wr) (fun i _ => m2 - (intOf i).toNat)
 case atStart => exact ⟨0, { A with a := a1, n := m1, c := c1 }, Nat.zero_le _, rfl, rfl, rfl, rfl, rfl, by simpa using HG0.out⟩
 case round =>
  rename_i wr
  obtain ⟨j, A', hj, rfl, ea, en, ec, en', hG⟩ := hrel
  have HG := hidOf hG
  clear HG0 q0 q1 q2 q3 q4 q5 qf
  obtain ⟨hNl, q0, q1, q2, q3, q4, q5, qf⟩ := id hG.box
  by_cases hlt2 : j < m2
  ·obtain ⟨⟨_, h' | ⟨b, off, rfl, hb, hcell⟩⟩, _⟩ := hG.out
   ·omega
   have hjl : j < out.length := by rw [HLo.out]; exact hlt2
   have hc := hcell j hlt2
   have htk : out.take (j + 1) = out.take j ++ [out.getD j 0] := by
    rw [List.take_succ_eq_append_getElem hjl]; simp [List.getD, List.getElem?_eq_getElem hjl]
   generalize hy : out.getD j 0 = y at hc htk
   obtain ⟨g', c', w', hr, ho', hg', hl'⟩ := append_gr2 B A'.n' _ _ y one wr hG.two (Nat.le_of_lt (Nat.lt_of_le_of_lt hge hNl)) (by omega)
   obtain ⟨hbx', hnx⟩ := hG.nx hsz hge hlt (by rw [en, ea]; exact hsp1) hsp2 ho' hg' hl'
   obtain ⟨_, r0, r1, r2, r3, r4, r5, rf⟩ := hbx'
   have Hr := hidOf hr
   have HN : Hid (GF B N w.heap.size w1.heap.size (Value.slice A.a' A.n' A.c').ownBlock w { A' with a' := some ⟨g', 0, none⟩, n' := A'.n' + 1, c' := c' } { x with ln := rest, gs := x.gs ++ (out.take (j + 1)).map fun y => (y, one) } (some ⟨b, off, none⟩) m2 out (w'.setCell ⟨N, 2, none⟩ (.slice (some ⟨g', 0, none⟩) (A'.n' + 1) c'))) := by
    rw [htk, List.map_append, ← List.append_assoc]; exact hnx
   have EN := hidOf (And.intro ea (And.intro en (And.intro ec en')))
   have hji : (0 : Int) ≤ (j : Int) ∧ (j : Int) < (m2 : Int) := by omega
   clear hr ho' hg' hl' hnx hG HG hcell htk hy ea en ec en' hsp1 hsp2
   go_wp2_with (at_builtin; refine wpList_append_run rfl _ _ 25 rfl _ _ _ rfl rfl Hr.out ?_)
   go_roundw
   case rel => exact ⟨j + 1, { A' with a' := some ⟨g', 0, none⟩, n' := A'.n' + 1, c' := c' }, by omega, by go_num, EN.out.1, EN.out.2.1, EN.out.2.2.1, by have := EN.out.2.2.2; simp only; omega, HN.out⟩
   case measure => simp [intOf]; omega
  ·obtain rfl : j = m2 := by omega
   have hke : out.take j = out := List.take_of_length_le (by rw [HLo.out]; exact Nat.le_refl _)
   rw [hke] at hG
   have hF : NSt B N A' { x with ln := rest, gs := x.gs ++ out.map fun y => (y, one) } wr ∧ FarL N A' a2 j := by
    refine ⟨⟨hG.box, hge, hG.one, by rw [en, ec]; exact hcp, hG.two, ?_, fun e => (hG.loc _ e).1 rfl, ?_⟩, ?_⟩
    ·rw [en, ea]
     exact hsp1.imp id fun l b off e => by have := l b off e; omega
    ·rw [en, ea]
     refine hsp1.imp id fun l b off e e' => ?_
     have := l b off e
     rcases (hG.loc _ e').2 with h | h <;> omega
    ·rcases Nat.eq_zero_or_pos j with hj0 | hjp
     ·exact .inl hj0
     refine hsp2.imp id fun l b off e => ?_
     have h2 := l b off e
     refine ⟨by omega, ?_, fun e' => by rcases (hG.loc _ e').2 with h | h <;> omega⟩
     rw [en, ea]
     rcases HApt.out with h0 | h0 | h0
     ·exact .inl h0
     ·omega
     ·exact .inr fun b' off' e' => (h0 b' off' b off e' e).symm
   obtain ⟨hF1, hF2⟩ := hF
   have H1 := hidOf hF1
   have H2 := hidOf hF2
   have H3 := hidOf hG.out
   have H4 := hidOf hG.below
   have H5 : Hid (NOth N A w A' wr) := ⟨hG.oth, by rw [en, ea]; exact hsp1.imp id fun l b off e => (l b off e).1, fun q e => (hG.loc q e).2.imp (fun h => h.2) (fun h => Nat.le_trans hsz h)⟩
   clear hF1 hF2 hG HG hke ea en ec en' hsp1 hsp2
   go_wp2
   go_ret
   rw [HOut.out, HRest.out]
   first | exact ⟨A', _, _, ⟨_, rfl⟩, H1.out, H3.out, H2.out, H4.out, H5.out⟩ | exact ⟨A', _, _, _, rfl, H1.out, H3.out, H2.out, H4.out, H5.out⟩
end Go.Proofs.Ytfgknbflgmblmaa
