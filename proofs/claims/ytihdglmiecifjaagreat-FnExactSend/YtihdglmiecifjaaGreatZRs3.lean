/-
  Walks of the laws' own helpers on terms: weighed, marked, looked at ag
  Walks of the laws' own helpers on subscribers that are the same: compa
  Walks of the laws' own helpers on messages: made anew, compared
  Walks of the laws' own helpers on messages: weighed
-/
import Derived.Test.YtihdglmiecifjaaGreatZRs2
namespace Go.Proofs.YtihdglmiecifjaaGreat
open Go.RowKit Pl Il
theorem szTerm_any (p : Tm) (l : Int) (w : World) (hm : p.2.2.size ≤ maxLen) (h0 : 0 ≤ l) (h1 : l ≤ 1048576) :
    Calls Tryz.prog 125 #[qV p, .int .i64 l] w fun e w' => e = .returned (.int .i64 (if l < (p.2.2.size : Int) then -1 else l - (p.2.2.size : Int))) ∧ Below w.heap.size w w' := by
  obtain ⟨x, y, s⟩ := p
  unfold qV
  unfold maxLen at hm
  simp only at hm ⊢
  have hb : Below w.heap.size w (w.alloc (.cells #[.int .i64 x, .int .i64 y, .string s] 131)) := bl_alloc (Below.refl _ _) _
  by_cases h : l < (s.size : Int)
  · have h' : l - (s.size : Int) < 0 := by omega
    go_enter Tryz.func125, Tryz.ntmps125
    go_wp2
    go_ret
    exact ⟨rint (by simp), hb⟩
  · have h' : ¬ l - (s.size : Int) < 0 := by omega
    go_enter Tryz.func125, Tryz.ntmps125
    go_wp2
    go_ret
    exact ⟨rint (by simp), hb⟩
/-- Too great, or not. -/
def SzF (n : Nat) (e : Ending) : Prop := ∃ k : Int, e = .returned (.int .i64 k) ∧ (k < 0 ∨ 0 ≤ k ∧ k ≤ 1048576 ∧ n ≤ 1048576)
set_option maxHeartbeats 1000000 in
theorem szTermS_any (a : Option Addr) (n c : Nat) (ts : List Tm) (l : Int) (w : World) (hI : TmAt w a n ts) (hn : n ≤ 9223372036854775807) (l0 : 0 ≤ l) (l1 : l ≤ 1048576) :
    Calls Tryz.prog 56 #[.slice a n c, .int .i64 l] w fun e w' => SzF n e ∧ Below w.heap.size w w' := by
  by_cases h : l < (n : Int)
  · have h' : l - (n : Int) < 0 := by omega
    clear hI
    go_enter Tryz.func56, Tryz.ntmps56
    go_wp2
    go_ret
    exact ⟨⟨_, rfl, .inl (by omega)⟩, Below.refl _ _⟩
  · have h' : ¬ l - (n : Int) < 0 := by omega
    have hn2 : n ≤ 1048576 := by omega
    obtain ⟨hlen, hsh, hr⟩ := hI
    have HS := hidOf hsh
    have HL := hidOf hlen
    have HR := hidOf hr
    clear hsh hlen hr
    go_enter Tryz.func56, Tryz.ntmps56
    go_wp2
    go_loopw [1, 5] (fun x i wr => ∃ (k : Nat) (y : Int), k ≤ n ∧ i = .int .i64 k ∧ x = .int .i64 y ∧ 0 ≤ y ∧ y ≤ 1048576 ∧ Below w.heap.size w wr) (fun _ i _ => n - (intOf i).toNat)
    case atStart => exact ⟨0, _, Nat.zero_le _, rfl, rfl, by omega, by omega, Below.refl _ _⟩
    case round =>
      rename_i wr
      obtain ⟨k, y, hk, rfl, rfl, y0, y1, hB⟩ := hrel
      by_cases hlt : k < n
      · obtain hr | ⟨b, off, rfl, hb, hcell⟩ := HR.out
        · omega
        obtain ⟨q0, q1, q2⟩ := hcell k hlt
        have hc := cellK q0 (hB.mono (by omega))
        have hc2 := cellK q1 hB
        have hc3 := cellK q2 hB
        have HC := fun u => hidOf (szTerm_any (qg ts k) y u (HS.out _ (qg_mem (by rw [HL.out]; exact hlt))) y0 y1)
        unfold qV at HC
        obtain ⟨z, hz⟩ : ∃ z, qg ts k = z := ⟨_, rfl⟩
        rw [hz] at hc hc2 hc3 HC
        clear hz hcell q0 q1 q2
        go_wp2_with fail
        refine ((HC _).out).mono ?_
        rintro e w1 ⟨rfl, hb1⟩
        have hB1 := bl_trans hB hb1
        clear HC hc hc2 hc3 hb1 hB
        by_cases hg : y < (z.2.2.size : Int)
        · rw [if_pos hg]
          go_wp2
          go_ret
          exact ⟨⟨_, rfl, .inl (by omega)⟩, hB1⟩
        · rw [if_neg hg]
          have hg' : ¬ y - (z.2.2.size : Int) < 0 := by omega
          go_wp2
          go_roundw
          case rel => exact ⟨k + 1, _, by omega, by go_num, rfl, by omega, by omega, hB1⟩
          case measure => simp [intOf]; omega
      · go_wp2
        go_ret
        exact ⟨⟨_, rfl, .inr ⟨y0, y1, hn2⟩⟩, hB⟩
def digB (k : Nat) : ByteArray := strOfNums [48 + (k : Int) % 10]
def mGo : Nat → Nat → ByteArray → ByteArray
  | 0, _, o => o
  | f + 1, k, o => if k = 0 then o else mGo f (k / 10) (digB k ++ o)
/-- The text of a mark. -/
def mkT (k : Nat) : ByteArray := ⟨#[109]⟩ ++ mGo k k ⟨#[]⟩
theorem mGo_size : ∀ (f k : Nat) (o : ByteArray), (mGo f k o).size ≤ f + o.size
  | 0, _, o => by simp [mGo]
  | f + 1, k, o => by
    unfold mGo
    split
    · omega
    · have := mGo_size f (k / 10) (digB k ++ o)
      rw [ByteArray.size_append] at this
      have h1 : (digB k).size = 1 := rfl
      omega
theorem mGo_zero (f : Nat) (o : ByteArray) : mGo f 0 o = o := by cases f <;> simp [mGo]
theorem mkT_size (k : Nat) : (mkT k).size ≤ k + 1 := by
  unfold mkT
  rw [ByteArray.size_append]
  have h1 : (⟨#[109]⟩ : ByteArray).size = 1 := rfl
  have := mGo_size k k ⟨#[]⟩
  have h2 : (⟨#[]⟩ : ByteArray).size = 0 := rfl
  omega
/-- Marks for terms: k, k + 1 and so on, three a term. -/
def marksF (k n : Nat) : List Tm := (List.range n).map fun (i : Nat) => (((k + 3 * i : Nat) : Int), ((k + 3 * i + 1 : Nat) : Int), mkT (k + 3 * i + 2))
theorem marksF_len (k n : Nat) : (marksF k n).length = n := by simp [marksF]
theorem marksF_get {k n j : Nat} (h : j < n) : qg (marksF k n) j = (((k + 3 * j : Nat) : Int), ((k + 3 * j + 1 : Nat) : Int), mkT (k + 3 * j + 2)) := by
  simp [marksF, qg, List.getD, List.getElem?_map, List.getElem?_range h]
theorem marksF_short {k n : Nat} (h : k + 3 * n ≤ 4000000000000000000) : ∀ p, p ∈ marksF k n → p.2.2.size ≤ maxLen := fun p hp => by
  simp only [marksF, List.mem_map, List.mem_range] at hp
  obtain ⟨i, hi, rfl⟩ := hp
  have := mkT_size (k + 3 * i + 2)
  unfold maxLen
  simp only
  omega
/-- Marks are written into a row, place by place. -/
structure MarkF (w : World) (b off n k m : Nat) (wr : World) : Prop where
  ex : w.grownBy wr (some b)
  lt : b < wr.heap.size
  cells : ∀ j, j < n → ∃ v0 v1 v2, wr.cell? ⟨b, off + j * 3, none⟩ = some v0 ∧ wr.cell? ⟨b, off + j * 3 + 1, none⟩ = some v1 ∧ wr.cell? ⟨b, off + j * 3 + 2, none⟩ = some v2 ∧ (j < m → v0 = .int .i64 ((k + 3 * j : Nat) : Int) ∧ v1 = .int .i64 ((k + 3 * j + 1 : Nat) : Int) ∧ v2 = .string (mkT (k + 3 * j + 2)))
  fr : ∀ j, wr.frozen? ⟨b, j, none⟩ = false
theorem grown_keep {w w' u : World} {r : Option Nat} (h : w.grownBy w' r) (hb : Below w'.heap.size w' u) : w.grownBy u r :=
  ⟨hb.os.trans h.os, hb.tape.trans h.tape, hb.output.trans h.output, Nat.le_trans h.size hb.size, fun k hk hne => (hb.block k (Nat.lt_of_lt_of_le hk h.size)).trans (h.block k hk hne)⟩
theorem MarkF.step {w : World} {b off n k m : Nat} {wr : World} (h : MarkF w b off n k m wr) : MarkF w b off n k (m + 1) (set3 wr b (off + m * 3) (.int .i64 ((k + 3 * m : Nat) : Int)) (.int .i64 ((k + 3 * m + 1 : Nat) : Int)) (.string (mkT (k + 3 * m + 2)))) where
  ex := set3_grown h.ex _ _ _
  lt := by rw [set3_size]; exact h.lt
  cells := fun j hj => by
    obtain ⟨v0, v1, v2, h0, h1, h2, hk⟩ := h.cells j hj
    by_cases e : j = m
    · subst e
      obtain ⟨q0, q1, q2⟩ := set3_same (x := .int .i64 ((k + 3 * j : Nat) : Int)) (y := .int .i64 ((k + 3 * j + 1 : Nat) : Int)) (z := .string (mkT (k + 3 * j + 2))) h0 h1 h2
      exact ⟨_, _, _, q0, q1, q2, fun _ => ⟨rfl, rfl, rfl⟩⟩
    · exact ⟨v0, v1, v2, by rw [set3_other (by omega)]; exact h0, by rw [set3_other (by omega)]; exact h1, by rw [set3_other (by omega)]; exact h2, fun hlt => hk (by omega)⟩
  fr := fun j => by rw [set3_fr]; exact h.fr j
/-- What a marking leaves. -/
def TurnF (a : Option Addr) (n : Nat) (w w' : World) : Prop := n = 0 ∧ Below w.heap.size w w' ∨ 0 < n ∧ ∃ b off, a = some ⟨b, off, none⟩ ∧ w.grownBy w' (some b)
end Go.Proofs.YtihdglmiecifjaaGreat
namespace Go.Proofs.YtihdglmiecifjaaGreat
open Go.RowKit Pl Il
theorem eqSub_same (s : Sb) (a a' : Option Addr) (n n' c c' : Nat) (w : World) (hI : TmAt w a n s.fl) (hJ : TmAt w a' n' s.fl) (hn : n ≤ 2097152) (hn' : n' ≤ 2097152) :
    Calls Tryz.prog 165 #[.agg #[.int .i64 s.id, .int .i64 s.st, .int .i64 s.cu, .int .i64 s.gt, .int .i64 s.lo, .int .i64 s.pa, .slice a n c], .agg #[.int .i64 s.id, .int .i64 s.st, .int .i64 s.cu, .int .i64 s.gt, .int .i64 s.lo, .int .i64 s.pa, .slice a' n' c']] w fun e w' => e = .returned (.bool true) ∧ Below w.heap.size w w' := by
  obtain ⟨i0, i1, i2, i3, i4, i5, fl⟩ := s
  simp only at hI hJ ⊢
  have hB : Below w.heap.size w ((w.alloc (.cells #[.int .i64 i0, .int .i64 i1, .int .i64 i2, .int .i64 i3, .int .i64 i4, .int .i64 i5, .slice a n c] 41)).alloc (.cells #[.int .i64 i0, .int .i64 i1, .int .i64 i2, .int .i64 i3, .int .i64 i4, .int .i64 i5, .slice a' n' c'] 41)) := bl_alloc (bl_alloc (Below.refl _ _) _) _
  have HI := hidOf (hI.keep hB)
  have HJ := hidOf (hJ.keep hB)
  have HB := hidOf hB
  clear hI hJ hB
  go_enter Tryz.func165, Tryz.ntmps165
  go_wp2_with fail
  refine (eqTermS_any a a' n n' c c' fl fl _ HI.out HJ.out hn hn').mono ?_
  rintro e w1 ⟨rfl, hb1⟩
  rw [eqFL_self]
  have hB1 := bl_trans HB.out hb1
  clear hb1 HB HI HJ
  go_wp2
  go_ret
  exact ⟨rfl, hB1⟩
/-- What the comparing of two elements holds on to. -/
abbrev EqS (b o b' o' : Nat) (x y : Sa) (w0 w : World) : Prop :=
  w.cell? ⟨b, o, none⟩ = some (.int .i64 x.s.id) ∧ w.cell? ⟨b, o + 1, none⟩ = some (.int .i64 x.s.st) ∧ w.cell? ⟨b, o + 2, none⟩ = some (.int .i64 x.s.cu) ∧ w.cell? ⟨b, o + 3, none⟩ = some (.int .i64 x.s.gt) ∧ w.cell? ⟨b, o + 4, none⟩ = some (.int .i64 x.s.lo) ∧ w.cell? ⟨b, o + 5, none⟩ = some (.int .i64 x.s.pa) ∧ w.cell? ⟨b, o + 6, none⟩ = some (.slice x.a x.n x.c) ∧
  w.cell? ⟨b', o', none⟩ = some (.int .i64 x.s.id) ∧ w.cell? ⟨b', o' + 1, none⟩ = some (.int .i64 x.s.st) ∧ w.cell? ⟨b', o' + 2, none⟩ = some (.int .i64 x.s.cu) ∧ w.cell? ⟨b', o' + 3, none⟩ = some (.int .i64 x.s.gt) ∧ w.cell? ⟨b', o' + 4, none⟩ = some (.int .i64 x.s.lo) ∧ w.cell? ⟨b', o' + 5, none⟩ = some (.int .i64 x.s.pa) ∧ w.cell? ⟨b', o' + 6, none⟩ = some (.slice y.a y.n y.c) ∧ Below w0.heap.size w0 w
theorem EqS.keep {b o b' o' : Nat} {x y : Sa} {w0 w w' : World} (h : EqS b o b' o' x y w0 w) (q : Below w.heap.size w w') : EqS b o b' o' x y w0 w' := by
  obtain ⟨h0, h1, h2, h3, h4, h5, h6, k0, k1, k2, k3, k4, k5, k6, hb⟩ := h
  exact ⟨cellK h0 q, cellK h1 q, cellK h2 q, cellK h3 q, cellK h4 q, cellK h5 q, cellK h6 q, cellK k0 q, cellK k1 q, cellK k2 q, cellK k3 q, cellK k4 q, cellK k5 q, cellK k6 q, bl_trans hb q⟩
theorem EqS.drew {b o b' o' : Nat} {x y : Sa} {w0 w : World} (h : EqS b o b' o' x y w0 w) : EqS b o b' o' x y w0 w.drew := h.keep (Below.refl _ _).drew
theorem EqS.bel {b o b' o' : Nat} {x y : Sa} {w0 w : World} (h : EqS b o b' o' x y w0 w) : Below w0.heap.size w0 w := h.2.2.2.2.2.2.2.2.2.2.2.2.2.2
theorem svs_at {xs ys : List Sa} (h : svs xs = svs ys) {k : Nat} (hk : k < xs.length) : (sg ys k).s = (sg xs k).s := by
  have hl : xs.length = ys.length := by have := congrArg List.length h; simpa [svs] using this
  rw [sg_eq hk, sg_eq (by omega)]
  have h1 : (svs xs)[k]? = (svs ys)[k]? := by rw [h]
  simp only [svs, List.getElem?_map, List.getElem?_eq_getElem hk, List.getElem?_eq_getElem (show k < ys.length by omega), Option.map_some] at h1
  injection h1 with h1
  exact h1.symm
set_option maxHeartbeats 4000000 in
theorem eqSubS_same (a a' : Option Addr) (n cap cap' : Nat) (xs ys : List Sa) (w : World) (hI : SubAt w a n xs) (hJ : SubAt w a' n ys) (hs : svs xs = svs ys) (hn : n ≤ 2097152) (hf : ∀ x, x ∈ xs → x.n ≤ 2097152) (hf' : ∀ y, y ∈ ys → y.n ≤ 2097152) :
  Calls Tryz.prog 120 #[.slice a n cap, .slice a' n cap'] w fun e w' => e = .returned (.bool true) ∧ Below w.heap.size w w' := by
 by_cases h0 : n = 0
 ·subst h0
  clear hI hJ hf hf' hs
  go_enter Tryz.func120, Tryz.ntmps120
  go_wp2
  go_loop [5] (fun i => i = .int .i64 0) (fun _ => 0)
  case atStart => rfl
  case round =>
   subst hrel
   go_wp2
   go_ret
   exact ⟨rfl, Below.refl _ _⟩
 ·obtain ⟨hlen, hfil, hr | ⟨b, off, rfl, hb, hcell⟩⟩ := hI
  ·omega
  obtain ⟨hlen', hfil', hr | ⟨b', off', rfl, hb', hcell'⟩⟩ := hJ
  ·omega
  have HL := hidOf hlen
  have HL' := hidOf hlen'
  have HS := hidOf hs
  have HFi := hidOf hfil
  have HFi' := hidOf hfil'
  have HFn := hidOf hf
  have HFn' := hidOf hf'
  clear hlen hlen' hs hfil hfil' hf hf'
  go_enter Tryz.func120, Tryz.ntmps120
  go_wp2
  go_loopw [5] (fun i wr => ∃ k : Nat, k ≤ n ∧ i = .int .i64 k ∧ Below w.heap.size w wr) (fun i _ => n - (intOf i).toNat)
  case atStart => exact ⟨0, Nat.zero_le _, rfl, Below.refl _ _⟩
  case round =>
   rename_i wr
   obtain ⟨k, hk, rfl, hB⟩ := hrel
   by_cases hlt : k < n
   ·have hc := (hcell k hlt).below hB hb
    have hc' := (hcell' k hlt).below hB hb'
    have hse := svs_at HS.out (k := k) (by rw [HL.out]; exact hlt)
    have hm := sg_mem (l := xs) (k := k) (by rw [HL.out]; exact hlt)
    have hm' := sg_mem (l := ys) (k := k) (by rw [HL'.out]; exact hlt)
    have t1 := HFi.out _ hm
    have t2 := HFi'.out _ hm'
    have n1 := HFn.out _ hm
    have n2 := HFn'.out _ hm'
    obtain ⟨x, hx⟩ : ∃ x, sg xs k = x := ⟨_, rfl⟩
    obtain ⟨y, hy⟩ : ∃ y, sg ys k = y := ⟨_, rfl⟩
    rw [hx] at hc t1 n1 hse
    rw [hy] at hc' t2 n2 hse
    rw [hse] at t2
    have hS : EqS b (off + k * 7) b' (off' + k * 7) x y w wr := ⟨hc.c0, hc.c1, hc.c2, hc.c3, hc.c4, hc.c5, hc.c6, by rw [← hse]; exact hc'.c0, by rw [← hse]; exact hc'.c1, by rw [← hse]; exact hc'.c2, by rw [← hse]; exact hc'.c3, by rw [← hse]; exact hc'.c4, by rw [← hse]; exact hc'.c5, hc'.c6, hB⟩
    have HC := hidOf (fun (u : World) (hu : Below w.heap.size w u) => eqSub_same x.s x.a y.a x.n y.n x.c y.c u (t1.keep hu) (t2.keep hu) n1 n2)
    have hki : (0 : Int) ≤ (k : Int) ∧ (k : Int) < (n : Int) := by omega
    clear hcell hcell' hx hy hB hc hc' hse hm hm' t1 t2 n1 n2
    go_wp2_with fail
    go_region_held3 (fun w' => EqS b (off + k * 7) b' (off' + k * 7) x y w w') (first | (exact hS.drew) | (exact EqS.keep (by assumption) (by assumption))) (first | (go_at_call 165; refine (HC.out _ ?hu).mono ?_; (case hu => exact EqS.bel (by assumption)); rintro e w1 ⟨rfl, hb1⟩))
    rename_i hT
    have hB2 := EqS.bel hT
    clear hS hT HC hb1
    go_wp2
    go_roundw
    case rel => exact ⟨k + 1, by omega, by go_num, hB2⟩
    case measure => simp [intOf]; omega
   ·clear hcell hcell'
    go_wp2
    go_ret
    exact ⟨rfl, hB⟩
end Go.Proofs.YtihdglmiecifjaaGreat
namespace Go.Proofs.YtihdglmiecifjaaGreat
open Go.RowKit Pl Il
theorem toMsgR_any (p : Tm) (w : World) :
    Calls Tryz.prog 49 #[qV p] w fun e w' => e = .returned (qV p) ∧ Below w.heap.size w w' := by
  obtain ⟨x, y, s⟩ := p
  unfold qV
  go_enter Tryz.func49, Tryz.ntmps49
  go_wp2
  refine bodyPost_ret (v := .agg #[.int .i64 x, .int .i64 y, .string s]) (by simp [results, Tryz.results49, go_sem]) rfl ⟨rfl, ?_⟩
  repeat (first | exact Below.refl _ _ | apply Below.drew | apply bl_alloc)
theorem infoMs : (Tryz.prog.info? 30).map (fun i => (i.zero, i.size, i.bytes)) = some (some (.agg #[.int .i64 0, .int .i64 0, .string ⟨#[]⟩]), 3, 32) := by kernel_rfl
theorem make_msgs (n : Nat) (hn : n ≤ 2097152) (w : World) : (Instr.makeSlice 24 (.int .i64 (n : Int)) (.int .i64 (n : Int))).run Tryz.prog w = .ok (.slice (some ⟨w.heap.size, 0, none⟩) n n) (w.alloc (.cells (madeCells (Value.agg #[.int .i64 0, .int .i64 0, .string ⟨#[]⟩]).cells (n * 3)) 30)) := by
  obtain ⟨i, hi, hz0, hz1, hz2⟩ := info_parts infoMs
  have := run_make (P := Tryz.prog) w 24 30 i (.agg #[.int .i64 0, .int .i64 0, .string ⟨#[]⟩]) Tryz.underlying24 hi hz0 .i64 .i64 (n : Int) (n : Int) (by omega) (by omega) (by rw [hz2]; omega) (by omega)
  rw [hz1] at this
  simpa using this
theorem toMsgS_any (a : Option Addr) (n cap : Nat) (ts : List Tm) (w : World) (hI : TmAt w a n ts) (hn : n ≤ 2097152) :
  Calls Tryz.prog 116 #[.slice a n cap] w fun e w' => e = .returned (.slice (some ⟨w.heap.size, 0, none⟩) n n) ∧ OwnF w.heap.size w' (some ⟨w.heap.size, 0, none⟩) n ts ∧ Below w.heap.size w w' := by
 have hmk := make_msgs n hn
 have hS := hidOf (FillF.start w n ts 30 (Value.agg #[.int .i64 0, .int .i64 0, .string ⟨#[]⟩]).cells)
 obtain ⟨hlen, hsh, rfl | ⟨b, off, rfl, hb, hcell⟩⟩ := hI
 ·have hx : ts = [] := List.length_eq_zero_iff.1 hlen
  subst hx
  have hmk0 : ∀ w : World, (Instr.makeSlice 24 (.int .i64 0) (.int .i64 0)).run Tryz.prog w = .ok (.slice (some ⟨w.heap.size, 0, none⟩) 0 0) (w.alloc (.cells (madeCells (Value.agg #[.int .i64 0, .int .i64 0, .string ⟨#[]⟩]).cells (0 * 3)) 30)) := fun w => make_msgs 0 (by omega) w
  clear hmk
  have hmk := hmk0
  clear hmk0
  go_enter Tryz.func116, Tryz.ntmps116
  go_wp2
  go_loopw [4] (fun i wr => i = .int .i64 0 ∧ FillF w w.heap.size 0 [] 0 wr) (fun _ _ => 0)
  case atStart => exact ⟨rfl, hS.out⟩
  case round =>
   obtain ⟨rfl, hF⟩ := hrel
   clear hS hmk
   go_wp2
   go_ret
   exact ⟨rfl, hF.own rfl hsh, hF.below⟩
 ·have HS := hidOf hsh
  clear hsh
  go_enter Tryz.func116, Tryz.ntmps116
  go_wp2_with fail
  go_loopw [4] (fun i wr => ∃ k : Nat, k ≤ n ∧ i = .int .i64 k ∧ FillF w w.heap.size n ts k wr) (fun i _ => n - (intOf i).toNat)
  case atStart => exact ⟨0, Nat.zero_le _, rfl, hS.out⟩
  case round =>
   rename_i wr
   obtain ⟨k, hk, rfl, hF⟩ := hrel
   have HL := hidOf hlen
   clear hS hmk hlen
   by_cases hlt : k < n
   ·have hc : wr.cell? ⟨b, off + k * 3, none⟩ = some (.int .i64 (qg ts k).1) := by rw [hF.below.cell (p := ⟨b, off + k * 3, none⟩) hb]; exact (hcell k hlt).1
    have hc2 : wr.cell? ⟨b, off + k * 3 + 1, none⟩ = some (.int .i64 (qg ts k).2.1) := by rw [hF.below.cell (p := ⟨b, off + k * 3 + 1, none⟩) hb]; exact (hcell k hlt).2.1
    have hc3 : wr.cell? ⟨b, off + k * 3 + 2, none⟩ = some (.string (qg ts k).2.2) := by rw [hF.below.cell (p := ⟨b, off + k * 3 + 2, none⟩) hb]; exact (hcell k hlt).2.2
    have HC := fun u => hidOf (toMsgR_any (qg ts k) u)
    unfold qV at HC
    obtain ⟨y, hy⟩ : ∃ y, qg ts k = y := ⟨_, rfl⟩
    rw [hy] at hc hc2 hc3 HC
    have HY := hidOf hy
    have HF := hidOf hF
    clear hy hcell hF
    go_wp2_with fail
    refine ((HC _).out).mono ?_
    rintro e w1 ⟨rfl, hb1⟩
    have hF1 := HF.out.keep hb1
    obtain ⟨v0, v1, v2, hv0, hv1, hv2, _⟩ := hF1.cells k hlt
    have hfr := hF1.fr
    have HF1 := hidOf (hF1.step y HY.out)
    unfold set3 at HF1
    clear hF1 HF HC hc hc2 hc3 hb1
    go_wp2
    go_roundw
    case rel => exact ⟨k + 1, by omega, by go_num, HF1.out⟩
    case measure => simp [intOf]; omega
   ·obtain rfl : k = n := by omega
    clear hcell
    go_wp2
    go_ret
    exact ⟨rfl, hF.own HL.out HS.out, hF.below⟩
theorem eqMsgR_any (p q : Tm) (w : World) :
    Calls Tryz.prog 132 #[qV p, qV q] w fun e w' => e = .returned (.bool (eqQ p q)) ∧ Below w.heap.size w w' := by
  obtain ⟨x, y, s⟩ := p
  obtain ⟨x', y', s'⟩ := q
  unfold qV eqQ
  have hB : Below w.heap.size w ((w.alloc (.cells #[.int .i64 x, .int .i64 y, .string s] 30)).alloc (.cells #[.int .i64 x', .int .i64 y', .string s'] 30)) := bl_alloc (bl_alloc (Below.refl _ _) _) _
  by_cases h0 : x = x'
  · by_cases h1 : y = y'
    · by_cases h2 : s = s'
      · subst h0 h1 h2
        go_enter Tryz.func132, Tryz.ntmps132
        go_wp2
        go_ret
        exact ⟨rbool (by simp), hB⟩
      · subst h0 h1
        have hd := ba_ne h2
        go_enter Tryz.func132, Tryz.ntmps132
        go_wp2
        go_ret
        exact ⟨rbool (by simp [h2]), hB⟩
    · subst h0
      have hd : (y != y') = true := by simp [h1]
      go_enter Tryz.func132, Tryz.ntmps132
      go_wp2
      go_ret
      exact ⟨rbool (by simp [h1]), hB⟩
  · have hd : (x != x') = true := by simp [h0]
    go_enter Tryz.func132, Tryz.ntmps132
    go_wp2
    go_ret
    exact ⟨rbool (by simp [h0]), hB⟩
theorem eqMsgS_any (a a' : Option Addr) (n n' cap cap' : Nat) (xs ys : List Tm) (w : World) (hI : TmAt w a n xs) (hJ : TmAt w a' n' ys) (hn : n ≤ 2097152) (hn' : n' ≤ 2097152) :
  Calls Tryz.prog 119 #[.slice a n cap, .slice a' n' cap'] w fun e w' => e = .returned (.bool (eqFL xs ys)) ∧ Below w.heap.size w w' := by
 by_cases hl : n = n'
 ·subst hl
  by_cases h0 : n = 0
  ·subst h0
   have e1 : xs = [] := List.length_eq_zero_iff.1 hI.len
   have e2 : ys = [] := List.length_eq_zero_iff.1 hJ.len
   subst e1 e2
   clear hI hJ
   go_enter Tryz.func119, Tryz.ntmps119
   go_wp2
   go_loop [5] (fun i => i = .int .i64 0) (fun _ => 0)
   case atStart => rfl
   case round =>
    subst hrel
    go_wp2
    go_ret
    exact ⟨rfl, Below.refl _ _⟩
  ·obtain ⟨hlen, _, hr | ⟨b, off, rfl, hb, hcell⟩⟩ := hI
   ·omega
   obtain ⟨hlen', _, hr | ⟨b', off', rfl, hb', hcell'⟩⟩ := hJ
   ·omega
   have HL := hidOf hlen
   have HL' := hidOf hlen'
   clear hlen hlen'
   go_enter Tryz.func119, Tryz.ntmps119
   go_wp2
   go_loopw [5] (fun i wr => ∃ k : Nat, k ≤ n ∧ i = .int .i64 k ∧ xs.take k = ys.take k ∧ Below w.heap.size w wr) (fun i _ => n - (intOf i).toNat)
   case atStart => exact ⟨0, Nat.zero_le _, rfl, rfl, Below.refl _ _⟩
   case round =>
    rename_i wr
    obtain ⟨k, hk, rfl, hno, hB⟩ := hrel
    have Hno := hidOf hno
    clear hno
    by_cases hlt : k < n
    ·have hS : EqR b (off + k * 3) b' (off' + k * 3) (qg xs k) (qg ys k) w wr := ⟨by rw [hB.cell (p := ⟨b, off + k * 3, none⟩) hb]; exact (hcell k hlt).1, by rw [hB.cell (p := ⟨b, off + k * 3 + 1, none⟩) hb]; exact (hcell k hlt).2.1, by rw [hB.cell (p := ⟨b, off + k * 3 + 2, none⟩) hb]; exact (hcell k hlt).2.2, by rw [hB.cell (p := ⟨b', off' + k * 3, none⟩) hb']; exact (hcell' k hlt).1, by rw [hB.cell (p := ⟨b', off' + k * 3 + 1, none⟩) hb']; exact (hcell' k hlt).2.1, by rw [hB.cell (p := ⟨b', off' + k * 3 + 2, none⟩) hb']; exact (hcell' k hlt).2.2, hB⟩
     have HC := fun u => hidOf (eqMsgR_any (qg xs k) (qg ys k) u)
     unfold qV at HC
     have hki : (0 : Int) ≤ (k : Int) ∧ (k : Int) < (n : Int) := by omega
     obtain ⟨x, hx⟩ : ∃ x, qg xs k = x := ⟨_, rfl⟩
     obtain ⟨y, hy⟩ : ∃ y, qg ys k = y := ⟨_, rfl⟩
     rw [hx, hy] at hS HC
     have HX := hidOf hx
     have HY := hidOf hy
     clear hcell hcell' hx hy hB
     go_wp2_with fail
     go_region_held3 (fun w' => EqR b (off + k * 3) b' (off' + k * 3) x y w w') (first | (exact hS.drew) | (exact EqR.keep (by assumption) (by assumption))) (first | (go_at_call 132; refine ((HC _).out).mono ?_; rintro e w1 ⟨rfl, hb1⟩))
     rename_i hT
     cases hd : eqQ x y
     ·have hB2 := hT.2.2.2.2.2.2
      have Hxy := hidOf hd
      clear hd hS hT
      go_wp2
      go_ret
      exact ⟨rbool (eqF_no (k := k) (by rw [HX.out, HY.out]; intro e; have := eqQ_iff.2 e; rw [Hxy.out] at this; cases this)).symm, hB2⟩
     ·have hB2 := hT.2.2.2.2.2.2
      have Hxy := hidOf (eqQ_iff.1 hd)
      clear hd hS hT
      go_wp2
      go_roundw
      case rel => exact ⟨k + 1, by omega, by go_num, eqF_step (by have := HL.out; omega) (by have := HL'.out; omega) Hno.out (by rw [HX.out, HY.out]; exact Hxy.out), hB2⟩
      case measure => simp [intOf]; omega
    ·clear hcell hcell'
     go_wp2
     go_ret
     exact ⟨rbool (eqF_end (by have := HL.out; have := HL'.out; omega) (by have := HL.out; omega) Hno.out).symm, hB⟩
 ·have hne : ((n : Int) != (n' : Int)) = true := by simp; omega
  have hq := eqF_len (xs := xs) (ys := ys) (by rw [hI.len, hJ.len]; exact hl)
  clear hI hJ
  go_enter Tryz.func119, Tryz.ntmps119
  go_wp2
  go_ret
  exact ⟨rbool hq.symm, Below.refl _ _⟩
end Go.Proofs.YtihdglmiecifjaaGreat
namespace Go.Proofs.YtihdglmiecifjaaGreat
open Go.RowKit Pl Il
theorem szMsgR_any (p : Tm) (l : Int) (w : World) (hm : p.2.2.size ≤ maxLen) (h0 : 0 ≤ l) (h1 : l ≤ 1048576) :
    Calls Tryz.prog 47 #[qV p, .int .i64 l] w fun e w' => e = .returned (.int .i64 (if l < (p.2.2.size : Int) then -1 else l - (p.2.2.size : Int))) ∧ Below w.heap.size w w' := by
  obtain ⟨x, y, s⟩ := p
  unfold qV
  unfold maxLen at hm
  simp only at hm ⊢
  have hb : Below w.heap.size w (w.alloc (.cells #[.int .i64 x, .int .i64 y, .string s] 69)) := bl_alloc (Below.refl _ _) _
  by_cases h : l < (s.size : Int)
  · have h' : l - (s.size : Int) < 0 := by omega
    go_enter Tryz.func47, Tryz.ntmps47
    go_wp2
    go_ret
    exact ⟨rint (by simp), hb⟩
  · have h' : ¬ l - (s.size : Int) < 0 := by omega
    go_enter Tryz.func47, Tryz.ntmps47
    go_wp2
    go_ret
    exact ⟨rint (by simp), hb⟩
set_option maxHeartbeats 1000000 in
theorem szMsgS_any (a : Option Addr) (n c : Nat) (ts : List Tm) (l : Int) (w : World) (hI : TmAt w a n ts) (hn : n ≤ 9223372036854775807) (l0 : 0 ≤ l) (l1 : l ≤ 1048576) :
    Calls Tryz.prog 113 #[.slice a n c, .int .i64 l] w fun e w' => SzF n e ∧ Below w.heap.size w w' := by
  by_cases h : l < (n : Int)
  · have h' : l - (n : Int) < 0 := by omega
    clear hI
    go_enter Tryz.func113, Tryz.ntmps113
    go_wp2
    go_ret
    exact ⟨⟨_, rfl, .inl (by omega)⟩, Below.refl _ _⟩
  · have h' : ¬ l - (n : Int) < 0 := by omega
    have hn2 : n ≤ 1048576 := by omega
    obtain ⟨hlen, hsh, hr⟩ := hI
    have HS := hidOf hsh
    have HL := hidOf hlen
    have HR := hidOf hr
    clear hsh hlen hr
    go_enter Tryz.func113, Tryz.ntmps113
    go_wp2
    go_loopw [1, 5] (fun x i wr => ∃ (k : Nat) (y : Int), k ≤ n ∧ i = .int .i64 k ∧ x = .int .i64 y ∧ 0 ≤ y ∧ y ≤ 1048576 ∧ Below w.heap.size w wr) (fun _ i _ => n - (intOf i).toNat)
    case atStart => exact ⟨0, _, Nat.zero_le _, rfl, rfl, by omega, by omega, Below.refl _ _⟩
    case round =>
      rename_i wr
      obtain ⟨k, y, hk, rfl, rfl, y0, y1, hB⟩ := hrel
      by_cases hlt : k < n
      · obtain hr | ⟨b, off, rfl, hb, hcell⟩ := HR.out
        · omega
        obtain ⟨q0, q1, q2⟩ := hcell k hlt
        have hc := cellK q0 (hB.mono (by omega))
        have hc2 := cellK q1 hB
        have hc3 := cellK q2 hB
        have HC := fun u => hidOf (szMsgR_any (qg ts k) y u (HS.out _ (qg_mem (by rw [HL.out]; exact hlt))) y0 y1)
        unfold qV at HC
        obtain ⟨z, hz⟩ : ∃ z, qg ts k = z := ⟨_, rfl⟩
        rw [hz] at hc hc2 hc3 HC
        clear hz hcell q0 q1 q2
        go_wp2_with fail
        refine ((HC _).out).mono ?_
        rintro e w1 ⟨rfl, hb1⟩
        have hB1 := bl_trans hB hb1
        clear HC hc hc2 hc3 hb1 hB
        by_cases hg : y < (z.2.2.size : Int)
        · rw [if_pos hg]
          go_wp2
          go_ret
          exact ⟨⟨_, rfl, .inl (by omega)⟩, hB1⟩
        · rw [if_neg hg]
          have hg' : ¬ y - (z.2.2.size : Int) < 0 := by omega
          go_wp2
          go_roundw
          case rel => exact ⟨k + 1, _, by omega, by go_num, rfl, by omega, by omega, hB1⟩
          case measure => simp [intOf]; omega
      · go_wp2
        go_ret
        exact ⟨⟨_, rfl, .inr ⟨y0, y1, hn2⟩⟩, hB⟩
end Go.Proofs.YtihdglmiecifjaaGreat
namespace Go.Proofs.YtihdglmiecifjaaGreat
open Go.RowKit Pl Il
theorem wpList_append_run {P : Program} {ops : Array Oper} {rest : List Oper} {o : Oper} {a : Act} {Q : Exit → Act → World → Prop} {w w' : World} (hgd : o.guard = none) (s x : Operand) (t : TypeId)
    (ho : o.op = .call { callee := .builtin .append, args := #[s, x], argTypes := #[t, t] }) (v u v' : Value) (hs : a.eval s = v) (hx : a.eval x = u)
    (hr : (Builtin.append_ #[t, t] o.type #[v, u]).run P w = .ok v' w') (h : wpList P ops Q rest (a.put o.dst v') w') : wpList P ops Q (o :: rest) a w :=
  wpList_plain hgd fun _ hK => by
    unfold Oper.wp execOp
    simp only [ho, resolve, invoke, builtin, Sem.run_bind, Sem.run_pure, Result.andThen_ok, List.map_toArray, List.map_cons, List.map_nil, hs, hx, hr]
    exact hK _ _ h
/-- A list that the call has made: its row, whole. -/
abbrev Owns (B : Nat) (w : World) (g n cap : Nat) (xs : List Int) : Prop := w.ownsRow B 3 1 (.slice (some ⟨g, 0, none⟩) n cap) n (xs.map (Value.int .i64))
theorem owns_parts {B : Nat} {w : World} {g n cap : Nat} {xs : List Int} (h : Owns B w g n cap xs) : xs.length = n ∧ B ≤ g ∧ g < w.heap.size ∧ n ≤ cap ∧ cap ≤ maxLen ∧ OwnAt B w (some ⟨g, 0, none⟩) n xs := by
  obtain ⟨a, c, e, ho⟩ := own_of h xs rfl
  cases e
  obtain ⟨hl, ⟨e, _⟩ | ⟨g', c', cur, e, hB, hg, hc, hm, _⟩⟩ := h
  · cases e
  · cases e
    refine ⟨by simpa using hl, hB, ?_, hc, hm, ho⟩
    rcases Nat.lt_or_ge g w.heap.size with k | k
    · exact k
    · rw [Array.getElem?_eq_none k] at hg; cases hg
theorem owns_empty (w : World) : Owns w.heap.size (w.alloc (.cells #[] 3)) w.heap.size 0 0 [] :=
  ⟨rfl, .inr ⟨w.heap.size, 0, #[], rfl, Nat.le_refl _, heap_alloc_new w _, Nat.le_refl _, Nat.zero_le _, rfl, rfl⟩⟩
theorem append_ints2 (B g m c : Nat) (ys : List Int) (a : Option Addr) (n cap : Nat) (xs : List Int) (w : World) (ho : Owns B w g m c ys) (hB : B ≤ w.heap.size) (hI : IntsAt w a n xs) (hs : m + n ≤ 4194304) :
  ∃ (g' c' : Nat) (w' : World), (Builtin.append_ #[26, 26] 26 #[.slice (some ⟨g, 0, none⟩) m c, .slice a n cap]).run Tryz.prog w = .ok (.slice (some ⟨g', 0, none⟩) (m + n) c') w' ∧
   Owns B w' g' (m + n) c' (ys ++ xs) ∧ w.grownBy w' (some g) ∧ (g' = g ∨ g' = w.heap.size) := by
 obtain ⟨i, hi, hz0, hz1, hz2⟩ := info_parts info3
 have hg0 : w.grownBy w (some g) := ⟨rfl, rfl, rfl, Nat.le_refl _, fun _ _ _ => rfl⟩
 have short : ∀ u : Value, (Builtin.append_ #[26, 26] 26 #[.slice (some ⟨g, 0, none⟩) m c, u]).run Tryz.prog w = .ok (.slice (some ⟨g, 0, none⟩) m c) w →
   ∃ (g' c' : Nat) (w' : World), (Builtin.append_ #[26, 26] 26 #[.slice (some ⟨g, 0, none⟩) m c, u]).run Tryz.prog w = .ok (.slice (some ⟨g', 0, none⟩) (m + 0) c') w' ∧ Owns B w' g' (m + 0) c' (ys ++ []) ∧ w.grownBy w' (some g) ∧ (g' = g ∨ g' = w.heap.size) :=
  fun u hu => ⟨g, c, w, hu, by rw [List.append_nil]; exact ho, hg0, .inl rfl⟩
 have hmc := (owns_parts ho).2.2.2.1
 obtain ⟨hlen, rfl | ⟨b, off, rfl, hb, hcell⟩⟩ := hI
 ·have hx : xs = [] := List.length_eq_zero_iff.1 hlen
  subst hx
  refine short _ ?_
  rcases a with _ | ad
  ·exact run_append_room_src _ _ _ _ 3 i Tryz.underlying26 hi g 0 m c _ 0 [] (Src.ofNil _ Tryz.underlying26 cap) (by omega) (fun j hj => by cases hj) (fun j hj => by cases hj)
  ·exact run_append_room_src _ _ _ _ 3 i Tryz.underlying26 hi g 0 m c _ 0 [] (Src.ofSlice _ Tryz.underlying26 ad 0 cap [] (by simp) (fun j u h => by simp at h) (fun u h => by cases h)) (by omega) (fun j hj => by cases hj) (fun j hj => by cases hj)
 ·rcases Nat.eq_zero_or_pos n with h0 | hpos
  ·subst h0
   have hx : xs = [] := List.length_eq_zero_iff.1 hlen
   subst hx
   refine short _ ?_
   exact run_append_room_src _ _ _ _ 3 i Tryz.underlying26 hi g 0 m c _ 0 [] (Src.ofSlice _ Tryz.underlying26 ⟨b, off, none⟩ 0 cap [] (by simp) (fun j u h => by simp at h) (fun u h => by cases h)) (by omega) (fun j hj => by cases hj) (fun j hj => by cases hj)
  ·obtain ⟨g', c', w', hr, hown, hgrow, hat, _⟩ := run_append_lies (P := Tryz.prog) w 26 26 B 3 i (.int .i64 0) 1 8 Tryz.underlying26 hi hz0 hz1 hz2 rfl (by omega) _ m _ ho ⟨b, off, none⟩ n cap (xs.map (Value.int .i64)) (by simp [hlen])
    (fun j u h => by
     rw [Addr.add_lit]
     have hj : j < n := by
      have := (List.getElem?_eq_some_iff.1 h).1
      simpa [hlen] using this
     rw [hcell j hj]
     simp only [List.getElem?_map] at h
     rw [List.getElem?_eq_getElem (by omega)] at h
     simp only [Option.map_some, Option.some.injEq] at h
     rw [← h]
     simp [List.getD, List.getElem?_eq_getElem (show j < xs.length by omega)])
    (fun u hu => by obtain ⟨_, _, rfl⟩ := List.mem_map.1 hu; rfl) hpos (by unfold maxLen; omega) (by omega) hB _ rfl
   refine ⟨g', c', w', hr, by rw [← List.map_append] at hown; exact hown, hgrow, ?_⟩
   rcases hat with h | h
   ·left; simpa [Value.ownBlock] using h.symm
   ·exact .inr h
theorem append_ints (B g m c : Nat) (ys : List Int) (a : Option Addr) (n cap : Nat) (xs : List Int) (w : World) (ho : Owns B w g m c ys) (hB : B ≤ w.heap.size) (hI : IntsAt w a n xs) (hs : m + n ≤ 4194304) :
    ∃ (g' c' : Nat) (w' : World), (Builtin.append_ #[26, 26] 26 #[.slice (some ⟨g, 0, none⟩) m c, .slice a n cap]).run Tryz.prog w = .ok (.slice (some ⟨g', 0, none⟩) (m + n) c') w' ∧
      Owns B w' g' (m + n) c' (ys ++ xs) ∧ w.grownBy w' (some g) := by
  obtain ⟨g', c', w', h1, h2, h3, _⟩ := append_ints2 B g m c ys a n cap xs w ho hB hI hs
  exact ⟨g', c', w', h1, h2, h3⟩
end Go.Proofs.YtihdglmiecifjaaGreat
namespace Go.Proofs.YtihdglmiecifjaaGreat
open Go.RowKit Pl Il
theorem l2Copy_any (a : Option Addr) (n cap : Nat) (xs : List Int) (w : World) (hI : IntsAt w a n xs) (hn : n ≤ 2097152) :
    Calls Tryz.prog 87 #[.slice a n cap] w fun e w' => ∃ g c, e = .returned (.slice (some ⟨g, 0, none⟩) n c) ∧ Owns w.heap.size w' g n c xs ∧ Below w.heap.size w w' := by
  have hb0 : Below w.heap.size w (w.alloc (.cells #[] 3)) := bl_alloc (Below.refl _ _) _
  obtain ⟨g, c, w', hr, ho, hg⟩ := append_ints w.heap.size w.heap.size 0 0 [] a n cap xs (w.alloc (.cells #[] 3)) (owns_empty w) (by simp) (hI.keep hb0) (by omega)
  rw [Nat.zero_add] at hr ho
  rw [List.nil_append] at ho
  have hb : Below w.heap.size w w' := hb0.grown hg (by simp) (fun k hk => by simp at hk; omega)
  have Hr : Hid _ := hr
  clear hr hg hb0 hI
  go_enter Tryz.func87, Tryz.ntmps87
  go_wp2_with (at_builtin; refine wpList_append_run rfl _ _ 26 rfl _ _ _ rfl rfl Hr.out ?_)
  go_ret
  exact ⟨g, c, rfl, ho, hb⟩
end Go.Proofs.YtihdglmiecifjaaGreat
namespace Go.Proofs.YtihdglmiecifjaaGreat
open Go.RowKit Pl Il
/-- append of one number to a row that is owned, or nil. -/
theorem append_own1 (B m : Nat) (v : Value) (ys : List Int) (x : Int) (w : World) (ho : w.ownsRow B 3 1 v m (ys.map (Value.int .i64))) (hB : B ≤ w.heap.size) (hs : m + 1 ≤ 4194304) :
    ∃ (g' c' : Nat) (w' : World), (Builtin.append_ #[26, 26] 26 #[v, .slice (some ⟨w.heap.size, 0, none⟩) 1 1]).run Tryz.prog (w.alloc (.cells #[.int .i64 x] 3)) = .ok (.slice (some ⟨g', 0, none⟩) (m + 1) c') w' ∧
      w'.ownsRow B 3 1 (.slice (some ⟨g', 0, none⟩) (m + 1) c') (m + 1) ((ys ++ [x]).map (Value.int .i64)) ∧ w.grownBy w' v.ownBlock ∧ (v.ownBlock = some g' ∨ w.heap.size ≤ g') := by
  obtain ⟨i, hi, hz0, hz1, hz2⟩ := info_parts info3
  obtain ⟨g', c', w', hr, hown, hgrow, hl, _⟩ := run_append_lies (P := Tryz.prog) (w.alloc (.cells #[.int .i64 x] 3)) 26 26 B 3 i (.int .i64 0) 1 8 Tryz.underlying26 hi hz0 hz1 hz2 rfl (by omega) v m _ (ho.alloc _) ⟨w.heap.size, 0, none⟩ 1 1 [.int .i64 x] rfl
    (cell_one_new _ _ _) (fun u hu => by rw [List.mem_singleton] at hu; subst hu; rfl) (by omega) (by unfold maxLen; omega) (by omega) (by simp; omega) _ rfl
  refine ⟨g', c', w', hr, by rw [List.map_append]; exact hown, (World.grownBy_alloc w _ _).trans hgrow, ?_⟩
  rcases hl with h | h
  · exact .inl h
  · right; subst h; simp
end Go.Proofs.YtihdglmiecifjaaGreat
namespace Go.Proofs.YtihdglmiecifjaaGreat
open Go.RowKit Pl Il
def cnt (x : Int) : Bool := decide (0 ≤ x) && decide (x ≤ 1000000000)
/-- Where two lists lie. -/
structure Na where
  a : Option Addr
  n : Nat
  c : Nat
  a' : Option Addr
  n' : Nat
  c' : Nat
def Na.zero : Na := ⟨none, 0, 0, none, 0, 0⟩
/-- Each list lies within its room. -/
def Na.ok (A : Na) : Prop := A.n ≤ A.c ∧ A.n' ≤ A.c'
end Go.Proofs.YtihdglmiecifjaaGreat
namespace Go.Proofs.YtihdglmiecifjaaGreat
open Go.RowKit Pl Il
theorem szIntS_any (a : Option Addr) (n cap : Nat) (k : Int) (w : World) (hn : n ≤ 9223372036854775807) (k0 : 0 ≤ k) (k1 : k ≤ 1048576) :
    Calls Tryz.prog 115 #[.slice a n cap, .int .i64 k] w fun e w' => e = .returned (.int .i64 (if k < (n : Int) then -1 else k - (n : Int))) ∧ w' = w := by
  by_cases h : k < (n : Int)
  · have h' : k - (n : Int) < 0 := by omega
    go_enter Tryz.func115, Tryz.ntmps115
    go_wp2
    go_ret
    refine ⟨rint ?_, rfl⟩
    simp
  · have h' : ¬ k - (n : Int) < 0 := by omega
    go_enter Tryz.func115, Tryz.ntmps115
    go_wp2
    go_ret
    refine ⟨rint ?_, rfl⟩
    simp
theorem bl_set1 {B : Nat} {w u : World} (h : Below B w u) (N o : Nat) (hN : B ≤ N) (y : Value) : Below B w (u.setCell ⟨N, o, none⟩ y) := h.setCell (p := ⟨N, o, none⟩) hN y
/-- Which blocks a marking of two lists may have turned: those of its two lists. -/
structure Turned (a : Option Addr) (n : Nat) (a' : Option Addr) (n' : Nat) (w w' : World) : Prop where
  os : w'.os = w.os
  tape : w'.tape = w.tape
  output : w'.output = w.output
  size : w.heap.size ≤ w'.heap.size
  block : ∀ k, k < w.heap.size → (∀ off, 0 < n → a ≠ some ⟨k, off, none⟩) → (∀ off, 0 < n' → a' ≠ some ⟨k, off, none⟩) → w'.heap[k]? = w.heap[k]?
theorem Turned.below {a : Option Addr} {n : Nat} {a' : Option Addr} {n' : Nat} {w w' : World} {B : Nat} (h : Turned a n a' n' w w') (hB : B ≤ w.heap.size) (h1 : n = 0 ∨ ∀ b off, a = some ⟨b, off, none⟩ → B ≤ b) (h2 : n' = 0 ∨ ∀ b off, a' = some ⟨b, off, none⟩ → B ≤ b) : Below B w w' :=
  ⟨h.os, h.tape, h.output, h.size, fun k hk => h.block k (by omega)
    (fun off hp e => by rcases h1 with h1 | h1; · omega
                        · have := h1 _ _ e; omega)
    (fun off hp e => by rcases h2 with h2 | h2; · omega
                        · have := h2 _ _ e; omega)⟩
theorem Il.OwnAt.turned {B : Nat} {w w' : World} {a : Option Addr} {n : Nat} {xs : List Int} {a1 : Option Addr} {n1 : Nat} {a2 : Option Addr} {n2 : Nat} (h : Il.OwnAt B w a n xs) (ht : Turned a1 n1 a2 n2 w w')
    (h1 : n1 = 0 ∨ ∀ b off, a1 = some ⟨b, off, none⟩ → b < B) (h2 : n2 = 0 ∨ ∀ b off, a2 = some ⟨b, off, none⟩ → b < B) : Il.OwnAt B w' a n xs := by
  obtain ⟨⟨hl, hr⟩, ho⟩ := h
  rcases hr with h0 | ⟨b1, off, rfl, hlt, hc⟩
  · exact ⟨⟨hl, .inl h0⟩, .inl h0⟩
  · rcases ho with h0 | ⟨b', off', e, hB, hf⟩
    · exact ⟨⟨hl, .inl h0⟩, .inl h0⟩
    · cases e
      have key : w'.heap[b1]? = w.heap[b1]? := ht.block b1 hlt
        (fun o hp e => by rcases h1 with h1 | h1; · omega
                          · have := h1 _ _ e; omega)
        (fun o hp e => by rcases h2 with h2 | h2; · omega
                          · have := h2 _ _ e; omega)
      refine ⟨⟨hl, .inr ⟨b1, off, rfl, Nat.lt_of_lt_of_le hlt ht.size, fun i hi => ?_⟩⟩, .inr ⟨b1, off, rfl, hB, fun i hi => ?_⟩⟩
      · rw [← hc i hi]; exact World.cell?_of_block key
      · rw [← hf i hi]; exact World.frozen?_of_block key
end Go.Proofs.YtihdglmiecifjaaGreat
