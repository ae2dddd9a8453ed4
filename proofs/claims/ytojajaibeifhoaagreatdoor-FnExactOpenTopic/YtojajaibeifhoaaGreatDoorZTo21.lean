/-
  A list of topics made anew, or grown, is one's own.
  Filters: plain mathematics. Which terms are right, how many a term takes, which filters are right.
  Rings: plain mathematics. The oldest, a subscriber's place, a right subscriber.
-/
import Derived.Test.YtojajaibeifhoaaGreatDoorZTo18
import Derived.Test.YtojajaibeifhoaaGreatDoorZTo20
import Derived.Test.YtojajaibeifhoaaGreatDoorZTo3
import Derived.Test.YtojajaibeifhoaaGreatDoorZTo8
namespace Go.Proofs.YtojajaibeifhoaaGreatDoor
open Go.RowKit Pl Il

def AptT (xs : List Ta) : Prop := xs.Pairwise fun x y => ∀ p, p ∈ allR x.M → ∀ q, q ∈ allR y.M → Far p.1 p.2 q.1 q.2
theorem AptT.snoc {xs : List Ta} {x : Ta} (h : AptT xs) (hx : ∀ y, y ∈ xs → ∀ p, p ∈ allR y.M → ∀ q, q ∈ allR x.M → Far p.1 p.2 q.1 q.2) : AptT (xs ++ [x]) := by
  unfold AptT
  rw [List.pairwise_append]
  refine ⟨h, by simp, fun y hy z hz => ?_⟩
  rw [List.mem_singleton.1 hz]
  exact hx y hy
theorem FillT.ownT {w : World} {n : Nat} {ys : List Ta} {wr : World} (h : FillT w w.heap.size n ys wr) (hl : ys.length = n) (ha : AptT ys) : OwnT w.heap.size wr (some ⟨w.heap.size, 0, none⟩) n ys :=
  ⟨h.top hl, .inr ⟨_, _, rfl, Nat.le_refl _, h.fr⟩, fun x hx => (h.own x hx).mono (by omega), fun x hx p hp => Far.mk (K := w.heap.size + 1) (.inr fun b off e => by cases e; omega) ((h.own x hx).abv p hp), ha⟩
theorem blk_of {M : Rm} {p : Option Addr × Nat} (h : p ∈ allR M) : ∃ c, (Value.slice p.1 p.2 c).ownBlock ∈ blkR M := by
  unfold allR at h
  unfold blkR
  simp only [List.mem_cons, List.mem_map] at h ⊢
  rcases h with rfl | rfl | rfl | rfl | ⟨x, hx, rfl⟩
  · exact ⟨M.ic, .inl rfl⟩
  · exact ⟨M.sc, .inr (.inl rfl)⟩
  · exact ⟨M.lc, .inr (.inr (.inl rfl))⟩
  · exact ⟨M.gc, .inr (.inr (.inr (.inl rfl)))⟩
  · exact ⟨x.c, .inr (.inr (.inr (.inr ⟨x, hx, rfl⟩)))⟩
theorem TRow.ownT {B : Nat} {w : World} {a : Option Addr} {n c : Nat} {xs : List Ta} (h : TRow B w a n c xs) : OwnT B w a n xs := by
  refine ⟨h.top, ?_, fun x hx => (h.rr x hx).own, fun x hx p hp => ?_, ?_⟩
  · obtain ⟨hl, ⟨e, k⟩ | ⟨g, cap, cur, e, hB, hg, hc, hm, hs, ht⟩⟩ := h.row
    · exact .inl (by injection e)
    · injection e with e1 e2 e3
      exact .inr ⟨g, 0, e1, hB, fun o => by unfold World.frozen?; simp [hg]⟩
  · obtain ⟨c', hc'⟩ := blk_of hp
    refine far_blk (c := c) (c' := c') fun b hb e => h.la b hb (mem_blkT.2 ⟨x, hx, ?_⟩)
    rw [← e]
    exact hc'
  · have hA := h.apt
    unfold Apt blkT at hA
    rw [List.pairwise_flatMap] at hA
    refine hA.2.imp fun {x y} hxy p hp q hq => ?_
    obtain ⟨c1, h1⟩ := blk_of hp
    obtain ⟨c2, h2⟩ := blk_of hq
    exact far_blk (c := c1) (c' := c2) (hxy _ h1 _ h2)
/-- A list was made anew, and is one's own. -/
def ToO (w : World) (n : Nat) (xs : List Ta) (e : Ending) (w' : World) : Prop := ∃ ys : List Ta, e = .returned (.slice (some ⟨w.heap.size, 0, none⟩) n n) ∧ OwnT w.heap.size w' (some ⟨w.heap.size, 0, none⟩) n ys ∧ tvs ys = tvs xs ∧ (∀ y, y ∈ ys → RCap y.M ∧ ∃ x, x ∈ xs ∧ ∀ k, RLe x.M k → RLe y.M k) ∧ Below w.heap.size w w'
set_option maxHeartbeats 4000000 in
theorem toTopicS_own (a : Option Addr) (n cap : Nat) (xs : List Ta) (w : World) (hI : TopAt w a n xs) (hn : n ≤ 2097152) (hf : TLe xs 2097152) :
    Calls Tryz.prog 18 #[.slice a n cap] w fun e w' => ToO w n xs e w' := by
  have hmk := make_tops n hn
  have hS := hidOf (FillT.start w n 40 (Value.agg #[.string ⟨#[]⟩, .int .i64 0, .int .i64 0, .slice none 0 0, .int .i64 0, .slice none 0 0, .slice none 0 0, .slice none 0 0, .bool false]).cells)
  obtain ⟨hlen, hnm, hsh, rfl | ⟨b, off, rfl, hb, hcell⟩⟩ := hI
  · have hx : xs = [] := List.length_eq_zero_iff.1 hlen
    subst hx
    have hmk0 : ∀ w : World, (Instr.makeSlice 24 (.int .i64 0) (.int .i64 0)).run Tryz.prog w = .ok (.slice (some ⟨w.heap.size, 0, none⟩) 0 0) (w.alloc (.cells (madeCells (Value.agg #[.string ⟨#[]⟩, .int .i64 0, .int .i64 0, .slice none 0 0, .int .i64 0, .slice none 0 0, .slice none 0 0, .slice none 0 0, .bool false]).cells (0 * 9)) 40)) := fun w => make_tops 0 (by omega) w
    clear hmk
    have hmk := hmk0
    clear hmk0 hsh hf hlen hnm
    go_enter Tryz.func18, Tryz.ntmps18
    go_wp2
    go_loopw [4] (fun i wr => i = .int .i64 0 ∧ FillT w w.heap.size 0 [] wr) (fun _ _ => 0)
    case atStart => exact ⟨rfl, hS.out⟩
    case round =>
      obtain ⟨rfl, hF⟩ := hrel
      clear hS hmk
      go_wp2
      go_ret
      exact ⟨[], rfl, hF.ownT rfl (by simp [AptT]), rfl, fun y hy => (by cases hy), hF.below⟩
  · have HS := hidOf hsh
    have HNm := hidOf hnm
    have HFn := hidOf hf
    clear hsh hf hnm
    go_enter Tryz.func18, Tryz.ntmps18
    go_wp2_with fail
    go_loopw [4] (fun i wr => ∃ ys : List Ta, ys.length ≤ n ∧ i = .int .i64 (ys.length : Nat) ∧ tvs ys = (tvs xs).take ys.length ∧ (∀ y, y ∈ ys → RCap y.M ∧ ∃ x, x ∈ xs ∧ ∀ k, RLe x.M k → RLe y.M k) ∧ FillT w w.heap.size n ys wr ∧ AptT ys) (fun i _ => n - (intOf i).toNat)
    case atStart => exact ⟨[], Nat.zero_le _, rfl, rfl, fun y hy => (by cases hy), hS.out, by simp [AptT]⟩
    case round =>
      rename_i wr
      obtain ⟨ys, hk, rfl, hsv, hcp, hF, hpt⟩ := hrel
      have HPt := hidOf hpt
      clear hpt
      have HL := hidOf hlen
      have HSv := hidOf hsv
      have HCp := hidOf hcp
      clear hS hmk hlen hsv hcp
      generalize hkk : ys.length = k at *
      have HK := hidOf hkk
      clear hkk
      by_cases hlt : k < n
      · obtain ⟨q0, q1, q2, q3, q4, q5, q6, q7, q8⟩ := (hcell k hlt).below hF.below hb
        have hmem := tg_mem (l := xs) (k := k) (by rw [HL.out]; exact hlt)
        have HC := hidOf (toTopic_any (tg xs k) wr ((HS.out _ hmem).keep hF.below) (HFn.out _ hmem))
        have HM := hidOf (And.intro hmem (HNm.out _ hmem))
        obtain ⟨z, hz⟩ : ∃ z, tg xs k = z := ⟨_, rfl⟩
        rw [hz] at q0 q1 q2 q3 q4 q5 q6 q7 q8 HC HM
        have HZ := hidOf hz
        have HF := hidOf hF
        clear hz hcell hmem hF
        go_wp2_with fail
        refine HC.out.mono ?_
        rintro e w1 ⟨M', rfl, ho, hle, hcap, hb1⟩
        have hF1 := HF.out.keep hb1
        have HP2 := hidOf (AptT.snoc HPt.out (x := ⟨z.nm, M', z.v⟩) fun y hy p hp q hq => Far.mk ((HF.out.own y hy).rin.und p hp) (ho.abv q hq))
        have hfr := hF1.fr
        have hex := hF1.cells k hlt
        obtain ⟨v0, hv0⟩ := hex 0 (by omega)
        obtain ⟨v1, hv1⟩ := hex 1 (by omega)
        obtain ⟨v2, hv2⟩ := hex 2 (by omega)
        obtain ⟨v3, hv3⟩ := hex 3 (by omega)
        obtain ⟨v4, hv4⟩ := hex 4 (by omega)
        obtain ⟨v5, hv5⟩ := hex 5 (by omega)
        obtain ⟨v6, hv6⟩ := hex 6 (by omega)
        obtain ⟨v7, hv7⟩ := hex 7 (by omega)
        obtain ⟨v8, hv8⟩ := hex 8 (by omega)
        have hT := hF1.step (by rw [HK.out]; exact hlt) ⟨z.nm, M', z.v⟩ (ho.mono (by have h1 := HF.out.lt; have h2 := HF.out.eq; omega)) HM.out.2
        rw [HK.out] at hT
        have HT := hidOf hT
        have HLe := hidOf hle
        have HCa := hidOf hcap
        simp only [setL] at HT
        simp only [Nat.add_zero] at hv0
        clear hT hF1 HF HC q0 q1 q2 q3 q4 q5 q6 q7 q8 hb1 ho hex hle hcap
        go_wp2
        go_roundw
        case rel =>
          refine ⟨ys ++ [⟨z.nm, M', z.v⟩], by simp; have := HK.out; omega, by simp; have := HK.out; omega, ?_, ?_, HT.out, HP2.out⟩
          · have hk2 : k < (tvs xs).length := by simp [tvs]; have := HL.out; omega
            have e1 : tvs (ys ++ [⟨z.nm, M', z.v⟩]) = tvs ys ++ [(z.nm, z.v)] := by simp [tvs]
            rw [e1, HSv.out]
            simp only [List.length_append, List.length_singleton, HK.out]
            rw [List.take_succ_eq_append_getElem hk2]
            congr 1
            have hk3 : k < xs.length := by have := HL.out; omega
            have : (tvs xs)[k] = (z.nm, z.v) := by simp only [tvs, List.getElem_map]; rw [← tg_eq hk3, HZ.out]
            rw [this]
          · intro y hy
            rcases List.mem_append.1 hy with hy | hy
            · exact HCp.out y hy
            · obtain rfl : y = ⟨z.nm, M', z.v⟩ := by simpa using hy
              exact ⟨HCa.out, z, HM.out.1, HLe.out⟩
        case measure => simp [intOf]; have := HK.out; omega
      · have hkn : k = n := by omega
        clear hcell
        go_wp2
        go_ret
        refine ⟨ys, rfl, hF.ownT (by rw [HK.out]; exact hkn) HPt.out, ?_, HCp.out, hF.below⟩
        rw [HSv.out, List.take_of_length_le (by simp [tvs]; have := HL.out; omega)]
end Go.Proofs.YtojajaibeifhoaaGreatDoor
namespace Go.Proofs.YtojajaibeifhoaaGreatDoor
open Go.RowKit Pl Il

def isLet (c : UInt8) : Bool := decide (97 ≤ c.toNat) && decide (c.toNat ≤ 122)
def letL (l : List UInt8) : Bool := l.all isLet
def partB (s : ByteArray) : Bool := decide (1 ≤ s.size) && decide (s.size ≤ 10) && letL s.data.toList
theorem let_step (s : ByteArray) (k : Nat) (h : k < s.size) (hp : letL (s.data.toList.take k) = true) (hg : isLet s[k] = true) :
    letL (s.data.toList.take (k + 1)) = true := by
  rw [take_snoc s k h]; simp [letL] at hp ⊢; exact ⟨hp, hg⟩
theorem part_bad (s : ByteArray) (k : Nat) (h : k < s.size) (hg : isLet s[k] = false) : partB s = false := by
  have hm : s[k] ∈ s.data.toList := by
    have : s.data.toList[k]'(by simpa using h) = s[k] := rfl
    rw [← this]; exact List.getElem_mem _
  have : letL s.data.toList = false := by
    unfold letL
    rw [List.all_eq_false]
    exact ⟨_, hm, by simp [hg]⟩
  simp [partB, this]
theorem part_size (s : ByteArray) (h : ¬ (1 ≤ (s.size : Int) ∧ (s.size : Int) ≤ 10)) : partB s = false := by
  by_cases h1 : 1 ≤ s.size
  · have : ¬ s.size ≤ 10 := by omega
    simp [partB, this]
  · simp [partB, h1]
theorem part_all (s : ByteArray) (k : Nat) (h1 : 1 ≤ (s.size : Int)) (h2 : (s.size : Int) ≤ 10) (h : s.size ≤ k) (hp : letL (s.data.toList.take k) = true) : partB s = true := by
  have e : s.data.toList.take k = s.data.toList := List.take_of_length_le (by simpa using h)
  rw [e] at hp
  have a : 1 ≤ s.size := by omega
  have b : s.size ≤ 10 := by omega
  simp [partB, a, b, hp]
theorem let_no (c : UInt8) (h : (c.toNat : Int) < 97 ∨ 122 < (c.toNat : Int)) : isLet c = false := by
  rcases h with h | h
  · have : ¬ 97 ≤ c.toNat := by omega
    simp [isLet, this]
  · have : ¬ c.toNat ≤ 122 := by omega
    simp [isLet, this]
theorem let_yes (c : UInt8) (h1 : ¬ (c.toNat : Int) < 97) (h2 : ¬ 122 < (c.toNat : Int)) : isLet c = true := by
  have a : 97 ≤ c.toNat := by omega
  have b : c.toNat ≤ 122 := by omega
  simp [isLet, a, b]

/-- Has a term just what its Op has? -/
def okTm (t : Tm) : Bool :=
  if t.1 = 1 ∨ t.1 = 2 ∨ t.1 = 3 ∨ t.1 = 8 ∨ t.1 = 9 ∨ t.1 = 10 then decide (t.2.1 = 0) && t.2.2.toList.isEmpty
  else if t.1 = 4 then decide (-999999999 ≤ t.2.1) && decide (t.2.1 ≤ 999999999) && t.2.2.toList.isEmpty
  else if t.1 = 5 then decide (1 ≤ t.2.1) && decide (t.2.1 ≤ 999999999) && t.2.2.toList.isEmpty
  else if t.1 = 6 ∨ t.1 = 7 then decide (t.2.1 = 0) && partB t.2.2
  else false
/-- How many an Op takes. -/
def cntM (op : Int) : Nat := if op = 8 then 1 else if op = 9 ∨ op = 10 then 2 else 0
theorem cnt_le (op : Int) : cntM op ≤ 2 := by unfold cntM; split <;> (try split) <;> omega
def takesM (t : Tm) : Int := if okTm t = true then (cntM t.1 : Int) else -1
/-- How many are left, if there is always what is taken. -/
def goN : List Tm → Nat → Option Nat
  | [], n => some n
  | t :: ts, n => if okTm t = false then none else if n < cntM t.1 then none else goN ts (n - cntM t.1 + 1)
theorem goN_cons (t : Tm) (ts : List Tm) (n : Nat) : goN (t :: ts) n = if okTm t = false then none else if n < cntM t.1 then none else goN ts (n - cntM t.1 + 1) := rfl
theorem goN_snoc : ∀ (l : List Tm) (t : Tm) (n : Nat), goN (l ++ [t]) n = (goN l n).bind fun m => if okTm t = false then none else if m < cntM t.1 then none else some (m - cntM t.1 + 1)
  | [], t, n => by simp [goN]
  | x :: l, t, n => by
    rw [List.cons_append, goN_cons, goN_cons]
    by_cases h1 : okTm x = false
    · rw [if_pos h1, if_pos h1]; rfl
    · rw [if_neg h1, if_neg h1]
      by_cases h2 : n < cntM x.1
      · rw [if_pos h2, if_pos h2]; rfl
      · rw [if_neg h2, if_neg h2]; exact goN_snoc l t _
theorem goN_append : ∀ (l l' : List Tm) (n : Nat), goN (l ++ l') n = (goN l n).bind fun m => goN l' m
  | [], l', n => by simp [goN]
  | x :: l, l', n => by
    rw [List.cons_append, goN_cons, goN_cons]
    by_cases h1 : okTm x = false
    · rw [if_pos h1, if_pos h1]; rfl
    · rw [if_neg h1, if_neg h1]
      by_cases h2 : n < cntM x.1
      · rw [if_pos h2, if_pos h2]; rfl
      · rw [if_neg h2, if_neg h2]; exact goN_append l l' _
def okF (f : List Tm) : Bool := decide (f.length ≤ 12) && (f.isEmpty || decide (goN f 0 = some 1))
theorem okF_nil : okF [] = true := rfl
theorem okF_long {f : List Tm} (h : ¬ f.length ≤ 12) : okF f = false := by simp [okF, h]
theorem okF_stop {f : List Tm} {k : Nat} (hk : k < f.length) {m : Nat} (h : goN (f.take k) 0 = some m) (hb : okTm (qg f k) = false ∨ m < cntM (qg f k).1) : okF f = false := by
  have e : f = f.take (k + 1) ++ f.drop (k + 1) := (List.take_append_drop _ _).symm
  have h1 : goN (f.take (k + 1)) 0 = none := by
    rw [take_qg hk, goN_snoc, h]
    simp only [Option.bind_some]
    rcases hb with hb | hb
    · rw [if_pos hb]
    · by_cases h1 : okTm (qg f k) = false
      · rw [if_pos h1]
      · rw [if_neg h1, if_pos hb]
  have h2 : goN f 0 = none := by
    rw [e, goN_append, h1]; rfl
  have hne : f.isEmpty = false := by
    cases f with
    | nil => simp at hk
    | cons _ _ => rfl
  simp [okF, h2, hne]
theorem goN_step {f : List Tm} {k : Nat} (hk : k < f.length) {m : Nat} (h : goN (f.take k) 0 = some m) (h1 : okTm (qg f k) = true) (h2 : ¬ m < cntM (qg f k).1) : goN (f.take (k + 1)) 0 = some (m - cntM (qg f k).1 + 1) := by
  rw [take_qg hk, goN_snoc, h]
  simp only [Option.bind_some]
  rw [if_neg (by rw [h1]; simp), if_neg h2]
theorem goN_le : ∀ (l : List Tm) (n m : Nat), goN l n = some m → m ≤ n + l.length
  | [], n, m, h => by simp [goN] at h; omega
  | x :: l, n, m, h => by
    unfold goN at h
    split at h
    · cases h
    · split at h
      · cases h
      · have := goN_le l _ _ h
        simp only [List.length_cons]
        omega
theorem goN_pos {f : List Tm} {k m : Nat} (hk : 0 < k) (hl : k ≤ f.length) (h : goN (f.take k) 0 = some m) : 1 ≤ m := by
  obtain ⟨j, rfl⟩ : ∃ j, k = j + 1 := ⟨k - 1, by omega⟩
  rw [take_qg (by omega), goN_snoc] at h
  cases e : goN (f.take j) 0 with
  | none => rw [e] at h; cases h
  | some q =>
    rw [e] at h
    simp only [Option.bind_some] at h
    split at h
    · cases h
    · split at h
      · cases h
      · simp at h; omega
theorem okF_end {f : List Tm} (h0 : f ≠ []) (hl : f.length ≤ 12) {m : Nat} (h : goN f 0 = some m) : okF f = decide ((m : Int) = 1) := by
  have hne : f.isEmpty = false := by
    cases f with
    | nil => exact absurd rfl h0
    | cons _ _ => rfl
  have : (goN f 0 = some 1) ↔ ((m : Int) = 1) := by rw [h]; simp; omega
  simp [okF, hl, hne, this]
end Go.Proofs.YtojajaibeifhoaaGreatDoor
namespace Go.Proofs.YtojajaibeifhoaaGreatDoor
open Go.RowKit Pl Il

/-- The least of m and the cursors. -/
def leastR (m : Int) (sb : List Sb) : Int := sb.foldl (fun a s => if s.cu < a then s.cu else a) m
theorem leastR_snoc (m : Int) (sb : List Sb) (s : Sb) : leastR m (sb ++ [s]) = if s.cu < leastR m sb then s.cu else leastR m sb := by unfold leastR; rw [List.foldl_append]; rfl
/-- The oldest of a ring. -/
def oldR (v : Rv) : Int :=
  let l := leastR v.se v.sb
  let k := if l < v.se - v.cp then v.se - v.cp else l
  if k < 0 then 0 else k
theorem leastR_le : ∀ (sb : List Sb) (m : Int), leastR m sb ≤ m
  | [], _ => Int.le_refl _
  | s :: sb, m => by
    have h := leastR_le sb (if s.cu < m then s.cu else m)
    have e : leastR m (s :: sb) = leastR (if s.cu < m then s.cu else m) sb := rfl
    rw [e]
    split at h <;> rename_i hc
    · rw [if_pos hc]; omega
    · rw [if_neg hc]; exact h
theorem oldR_bd {v : Rv} (h0 : 0 ≤ v.se) (h1 : 1 ≤ v.cp) : 0 ≤ oldR v ∧ oldR v ≤ v.se := by
  have h := leastR_le v.sb v.se
  unfold oldR
  simp only
  split <;> split <;> omega
/-- A subscriber's place, or -1. -/
def atR (sb : List Sb) (id : Int) : Int := match sb.findIdx? (fun s => s.id == id) with | some i => (i : Int) | none => -1
theorem atR_at {sb : List Sb} {id : Int} {k : Nat} (hk : k < sb.length) (hn : ∀ j (hj : j < k), ¬ (sb[j]'(by omega)).id = id) (he : (sb[k]).id = id) : atR sb id = (k : Int) := by
  have : sb.findIdx? (fun s => s.id == id) = some k := by
    rw [List.findIdx?_eq_some_iff_getElem]
    exact ⟨hk, by simp [he], fun j hj => by simp [hn j hj]⟩
  unfold atR
  rw [this]
theorem atR_none {sb : List Sb} {id : Int} (hn : ∀ j (hj : j < sb.length), ¬ (sb[j]).id = id) : atR sb id = -1 := by
  have : sb.findIdx? (fun s => s.id == id) = none := by
    rw [List.findIdx?_eq_none_iff]
    intro s hs
    obtain ⟨j, hj, rfl⟩ := List.getElem_of_mem hs
    simp [hn j hj]
  unfold atR
  rw [this]
/-- A right subscriber of a ring. -/
def subHead (v : Rv) (s : Sb) : Bool := decide (0 ≤ s.id ∧ s.id ≤ v.nx - 1) && decide (0 ≤ s.st) && decide (s.st ≤ s.cu) && decide (s.cu ≤ v.se) && decide (0 ≤ s.gt) && decide (0 ≤ s.lo) && decide (0 ≤ s.pa)
def subSums (s : Sb) : Bool := decide (s.gt ≤ s.cu - s.st) && decide (s.lo ≤ s.cu - s.st) && decide (s.pa ≤ s.cu - s.st) && decide (s.gt + s.lo + s.pa = s.cu - s.st)
def subR (v : Rv) (s : Sb) : Bool := subHead v s && (subSums s && okF s.fl)
theorem sg_svs {xs : List Sa} {k : Nat} (hk : k < xs.length) : (svs xs)[k]'(by simpa [svs] using hk) = (sg xs k).s := by simp only [svs, List.getElem_map]; rw [sg_eq hk]
end Go.Proofs.YtojajaibeifhoaaGreatDoor
