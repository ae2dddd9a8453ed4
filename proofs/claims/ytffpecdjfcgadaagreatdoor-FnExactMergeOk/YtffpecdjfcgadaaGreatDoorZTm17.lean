/-
  Filters: plain mathematics. Which terms are right, how many a term takes, which filters are right.
  Rings: plain mathematics. The oldest, a subscriber's place, a right subscriber.
  The specification's rings: the oldest, a subscriber's place.
  Walks of the specification's filters: which are right.
  The specification's rings: a right subscriber.
  The specification's rings: what the walk of RingOk holds on to.
  Walks of the specification's lines: who joins, who leaves, who is woken.
  Walks of the specification's lines: who is woken.
  The plain mathematics of a queue whose places stand in a map (no program in it).
-/
import Derived.Test.YtffpecdjfcgadaaGreatDoorZTm3
import Derived.Test.YtffpecdjfcgadaaGreatDoorZTm10
import Derived.Deep.RegionHeld3
import Derived.Test.YtffpecdjfcgadaaGreatDoorZTm14
import Derived.Maps.OwnSet
namespace Go.Proofs.YtffpecdjfcgadaaGreatDoor
open Go.RowKit Pl Il

def isLet (c : UInt8) : Bool := decide (97 ≤ c.toNat) && decide (c.toNat ≤ 122)
def letL (l : List UInt8) : Bool := l.all isLet
def partB (s : ByteArray) : Bool := decide (1 ≤ s.size) && decide (s.size ≤ 10) && letL s.data.toList
theorem let_step (s : ByteArray) (k : Nat) (h : k < s.size) (hp : letL (s.data.toList.take k) = true) (hg : isLet s[k] = true) :
    letL (s.data.toList.take (k + 1)) = true := by
  rw [take_snoc s k h]; simp [letL] at hp ⊢; exact ⟨hp, hg⟩
theorem part_bad (s : ByteArray) (k : Nat) (h : k < s.size) (hg : isLet s[k] = false) : partB s = false := by
  have hm : s[k] ∈ s.data.toList := by
    have : s.data.toList[k]'(by simpa using h) = s[k] := rfl
    rw [← this]; exact List.getElem_mem _
  have : letL s.data.toList = false := by
    unfold letL
    rw [List.all_eq_false]
    exact ⟨_, hm, by simp [hg]⟩
  simp [partB, this]
theorem part_size (s : ByteArray) (h : ¬ (1 ≤ (s.size : Int) ∧ (s.size : Int) ≤ 10)) : partB s = false := by
  by_cases h1 : 1 ≤ s.size
  · have : ¬ s.size ≤ 10 := by omega
    simp [partB, this]
  · simp [partB, h1]
theorem part_all (s : ByteArray) (k : Nat) (h1 : 1 ≤ (s.size : Int)) (h2 : (s.size : Int) ≤ 10) (h : s.size ≤ k) (hp : letL (s.data.toList.take k) = true) : partB s = true := by
  have e : s.data.toList.take k = s.data.toList := List.take_of_length_le (by simpa using h)
  rw [e] at hp
  have a : 1 ≤ s.size := by omega
  have b : s.size ≤ 10 := by omega
  simp [partB, a, b, hp]
theorem let_no (c : UInt8) (h : (c.toNat : Int) < 97 ∨ 122 < (c.toNat : Int)) : isLet c = false := by
  rcases h with h | h
  · have : ¬ 97 ≤ c.toNat := by omega
    simp [isLet, this]
  · have : ¬ c.toNat ≤ 122 := by omega
    simp [isLet, this]
theorem let_yes (c : UInt8) (h1 : ¬ (c.toNat : Int) < 97) (h2 : ¬ 122 < (c.toNat : Int)) : isLet c = true := by
  have a : 97 ≤ c.toNat := by omega
  have b : c.toNat ≤ 122 := by omega
  simp [isLet, a, b]

/-- Has a term just what its Op has? -/
def okTm (t : Tm) : Bool :=
  if t.1 = 1 ∨ t.1 = 2 ∨ t.1 = 3 ∨ t.1 = 8 ∨ t.1 = 9 ∨ t.1 = 10 then decide (t.2.1 = 0) && t.2.2.toList.isEmpty
  else if t.1 = 4 then decide (-999999999 ≤ t.2.1) && decide (t.2.1 ≤ 999999999) && t.2.2.toList.isEmpty
  else if t.1 = 5 then decide (1 ≤ t.2.1) && decide (t.2.1 ≤ 999999999) && t.2.2.toList.isEmpty
  else if t.1 = 6 ∨ t.1 = 7 then decide (t.2.1 = 0) && partB t.2.2
  else false
/-- How many an Op takes. -/
def cntM (op : Int) : Nat := if op = 8 then 1 else if op = 9 ∨ op = 10 then 2 else 0
theorem cnt_le (op : Int) : cntM op ≤ 2 := by unfold cntM; split <;> (try split) <;> omega
def takesM (t : Tm) : Int := if okTm t = true then (cntM t.1 : Int) else -1
/-- How many are left, if there is always what is taken. -/
def goN : List Tm → Nat → Option Nat
  | [], n => some n
  | t :: ts, n => if okTm t = false then none else if n < cntM t.1 then none else goN ts (n - cntM t.1 + 1)
theorem goN_cons (t : Tm) (ts : List Tm) (n : Nat) : goN (t :: ts) n = if okTm t = false then none else if n < cntM t.1 then none else goN ts (n - cntM t.1 + 1) := rfl
theorem goN_snoc : ∀ (l : List Tm) (t : Tm) (n : Nat), goN (l ++ [t]) n = (goN l n).bind fun m => if okTm t = false then none else if m < cntM t.1 then none else some (m - cntM t.1 + 1)
  | [], t, n => by simp [goN]
  | x :: l, t, n => by
    rw [List.cons_append, goN_cons, goN_cons]
    by_cases h1 : okTm x = false
    · rw [if_pos h1, if_pos h1]; rfl
    · rw [if_neg h1, if_neg h1]
      by_cases h2 : n < cntM x.1
      · rw [if_pos h2, if_pos h2]; rfl
      · rw [if_neg h2, if_neg h2]; exact goN_snoc l t _
theorem goN_append : ∀ (l l' : List Tm) (n : Nat), goN (l ++ l') n = (goN l n).bind fun m => goN l' m
  | [], l', n => by simp [goN]
  | x :: l, l', n => by
    rw [List.cons_append, goN_cons, goN_cons]
    by_cases h1 : okTm x = false
    · rw [if_pos h1, if_pos h1]; rfl
    · rw [if_neg h1, if_neg h1]
      by_cases h2 : n < cntM x.1
      · rw [if_pos h2, if_pos h2]; rfl
      · rw [if_neg h2, if_neg h2]; exact goN_append l l' _
def okF (f : List Tm) : Bool := decide (f.length ≤ 12) && (f.isEmpty || decide (goN f 0 = some 1))
theorem okF_nil : okF [] = true := rfl
theorem okF_long {f : List Tm} (h : ¬ f.length ≤ 12) : okF f = false := by simp [okF, h]
theorem okF_stop {f : List Tm} {k : Nat} (hk : k < f.length) {m : Nat} (h : goN (f.take k) 0 = some m) (hb : okTm (qg f k) = false ∨ m < cntM (qg f k).1) : okF f = false := by
  have e : f = f.take (k + 1) ++ f.drop (k + 1) := (List.take_append_drop _ _).symm
  have h1 : goN (f.take (k + 1)) 0 = none := by
    rw [take_qg hk, goN_snoc, h]
    simp only [Option.bind_some]
    rcases hb with hb | hb
    · rw [if_pos hb]
    · by_cases h1 : okTm (qg f k) = false
      · rw [if_pos h1]
      · rw [if_neg h1, if_pos hb]
  have h2 : goN f 0 = none := by
    rw [e, goN_append, h1]; rfl
  have hne : f.isEmpty = false := by
    cases f with
    | nil => simp at hk
    | cons _ _ => rfl
  simp [okF, h2, hne]
theorem goN_step {f : List Tm} {k : Nat} (hk : k < f.length) {m : Nat} (h : goN (f.take k) 0 = some m) (h1 : okTm (qg f k) = true) (h2 : ¬ m < cntM (qg f k).1) : goN (f.take (k + 1)) 0 = some (m - cntM (qg f k).1 + 1) := by
  rw [take_qg hk, goN_snoc, h]
  simp only [Option.bind_some]
  rw [if_neg (by rw [h1]; simp), if_neg h2]
theorem goN_le : ∀ (l : List Tm) (n m : Nat), goN l n = some m → m ≤ n + l.length
  | [], n, m, h => by simp [goN] at h; omega
  | x :: l, n, m, h => by
    unfold goN at h
    split at h
    · cases h
    · split at h
      · cases h
      · have := goN_le l _ _ h
        simp only [List.length_cons]
        omega
theorem goN_pos {f : List Tm} {k m : Nat} (hk : 0 < k) (hl : k ≤ f.length) (h : goN (f.take k) 0 = some m) : 1 ≤ m := by
  obtain ⟨j, rfl⟩ : ∃ j, k = j + 1 := ⟨k - 1, by omega⟩
  rw [take_qg (by omega), goN_snoc] at h
  cases e : goN (f.take j) 0 with
  | none => rw [e] at h; cases h
  | some q =>
    rw [e] at h
    simp only [Option.bind_some] at h
    split at h
    · cases h
    · split at h
      · cases h
      · simp at h; omega
theorem okF_end {f : List Tm} (h0 : f ≠ []) (hl : f.length ≤ 12) {m : Nat} (h : goN f 0 = some m) : okF f = decide ((m : Int) = 1) := by
  have hne : f.isEmpty = false := by
    cases f with
    | nil => exact absurd rfl h0
    | cons _ _ => rfl
  have : (goN f 0 = some 1) ↔ ((m : Int) = 1) := by rw [h]; simp; omega
  simp [okF, hl, hne, this]
end Go.Proofs.YtffpecdjfcgadaaGreatDoor
namespace Go.Proofs.YtffpecdjfcgadaaGreatDoor
open Go.RowKit Pl Il

/-- The least of m and the cursors. -/
def leastR (m : Int) (sb : List Sb) : Int := sb.foldl (fun a s => if s.cu < a then s.cu else a) m
theorem leastR_snoc (m : Int) (sb : List Sb) (s : Sb) : leastR m (sb ++ [s]) = if s.cu < leastR m sb then s.cu else leastR m sb := by unfold leastR; rw [List.foldl_append]; rfl
/-- The oldest of a ring. -/
def oldR (v : Rv) : Int :=
  let l := leastR v.se v.sb
  let k := if l < v.se - v.cp then v.se - v.cp else l
  if k < 0 then 0 else k
theorem leastR_le : ∀ (sb : List Sb) (m : Int), leastR m sb ≤ m
  | [], _ => Int.le_refl _
  | s :: sb, m => by
    have h := leastR_le sb (if s.cu < m then s.cu else m)
    have e : leastR m (s :: sb) = leastR (if s.cu < m then s.cu else m) sb := rfl
    rw [e]
    split at h <;> rename_i hc
    · rw [if_pos hc]; omega
    · rw [if_neg hc]; exact h
theorem oldR_bd {v : Rv} (h0 : 0 ≤ v.se) (h1 : 1 ≤ v.cp) : 0 ≤ oldR v ∧ oldR v ≤ v.se := by
  have h := leastR_le v.sb v.se
  unfold oldR
  simp only
  split <;> split <;> omega
/-- A subscriber's place, or -1. -/
def atR (sb : List Sb) (id : Int) : Int := match sb.findIdx? (fun s => s.id == id) with | some i => (i : Int) | none => -1
theorem atR_at {sb : List Sb} {id : Int} {k : Nat} (hk : k < sb.length) (hn : ∀ j (hj : j < k), ¬ (sb[j]'(by omega)).id = id) (he : (sb[k]).id = id) : atR sb id = (k : Int) := by
  have : sb.findIdx? (fun s => s.id == id) = some k := by
    rw [List.findIdx?_eq_some_iff_getElem]
    exact ⟨hk, by simp [he], fun j hj => by simp [hn j hj]⟩
  unfold atR
  rw [this]
theorem atR_none {sb : List Sb} {id : Int} (hn : ∀ j (hj : j < sb.length), ¬ (sb[j]).id = id) : atR sb id = -1 := by
  have : sb.findIdx? (fun s => s.id == id) = none := by
    rw [List.findIdx?_eq_none_iff]
    intro s hs
    obtain ⟨j, hj, rfl⟩ := List.getElem_of_mem hs
    simp [hn j hj]
  unfold atR
  rw [this]
/-- A right subscriber of a ring. -/
def subHead (v : Rv) (s : Sb) : Bool := decide (0 ≤ s.id ∧ s.id ≤ v.nx - 1) && decide (0 ≤ s.st) && decide (s.st ≤ s.cu) && decide (s.cu ≤ v.se) && decide (0 ≤ s.gt) && decide (0 ≤ s.lo) && decide (0 ≤ s.pa)
def subSums (s : Sb) : Bool := decide (s.gt ≤ s.cu - s.st) && decide (s.lo ≤ s.cu - s.st) && decide (s.pa ≤ s.cu - s.st) && decide (s.gt + s.lo + s.pa = s.cu - s.st)
def subR (v : Rv) (s : Sb) : Bool := subHead v s && (subSums s && okF s.fl)
theorem sg_svs {xs : List Sa} {k : Nat} (hk : k < xs.length) : (svs xs)[k]'(by simpa [svs] using hk) = (sg xs k).s := by simp only [svs, List.getElem_map]; rw [sg_eq hk]
end Go.Proofs.YtffpecdjfcgadaaGreatDoor
namespace Go.Proofs.YtffpecdjfcgadaaGreatDoor
open Go.RowKit Pl Il

set_option maxHeartbeats 2000000 in
theorem l9Oldest_any (M : Rm) (v : Rv) (w : World) (hI : RIn w M v) (hm : RLe M 2097152) (hse : 0 ≤ v.se ∧ v.se ≤ 1000000000) (hcp : 1 ≤ v.cp ∧ v.cp ≤ 16) :
    Calls Tryz.prog 48 #[.agg #[.int .i64 v.cp, .int .i64 v.se, .slice M.ia M.i M.ic, .int .i64 v.nx, .slice M.sa M.s M.sc, .slice M.la M.l M.lc, .slice M.ga M.g M.gc, .bool v.cl]] w fun e w' => e = .returned (.int .i64 (oldR v)) ∧ Below w.heap.size w w' := by
  obtain ⟨W0, hW0⟩ : ∃ W, W = w.alloc (.cells #[.int .i64 v.cp, .int .i64 v.se, .slice M.ia M.i M.ic, .int .i64 v.nx, .slice M.sa M.s M.sc, .slice M.la M.l M.lc, .slice M.ga M.g M.gc, .bool v.cl] 53) := ⟨_, rfl⟩
  have b0 : Below w.heap.size w W0 := by rw [hW0]; exact bl_alloc (Below.refl _ _) _
  have X0 : BoxL w.heap.size (rC M v) W0 := by rw [hW0]; exact BoxL.new w (rC M v) _
  have p0 := X0.cs 0 (by simp)
  have p1 := X0.cs 1 (by simp)
  have p4 := X0.cs 4 (by simp)
  simp at p0 p1 p4
  have hl := hI.sb.len
  have hlv : v.sb = svs M.xs := hI.sv.symm
  have hsn := hm.s
  have HR := hidOf (hI.sb.keep b0).row
  have HLv := hidOf hlv
  have HL := hidOf hl
  have HSe := hidOf hse
  have HCp := hidOf hcp
  have HB := hidOf b0
  clear hI hm hl hlv X0 b0 hse hcp
  go_enter Tryz.func48, Tryz.ntmps48
  go_wp2_with fail
  rw [← hW0]
  clear hW0
  go_loop [3, 4] (fun m i => ∃ k : Nat, k ≤ M.s ∧ i = .int .i64 k ∧ m = .int .i64 (leastR v.se (v.sb.take k))) (fun _ i => M.s - (intOf i).toNat)
  case atStart => exact ⟨0, Nat.zero_le _, rfl, rfl⟩
  case round =>
    obtain ⟨k, hk, rfl, rfl⟩ := hrel
    by_cases hlt : k < M.s
    · obtain hr | ⟨b, off, ea, hb, hcell⟩ := HR.out
      · omega
      have hc2 := (hcell k hlt).c2
      have hk1 : k < M.xs.length := by rw [HL.out]; exact hlt
      have hk2 : k < v.sb.length := by rw [HLv.out]; simpa [svs] using hk1
      have hst : v.sb.take (k + 1) = v.sb.take k ++ [(sg M.xs k).s] := by
        rw [List.take_succ_eq_append_getElem hk2]
        congr 2
        have := sg_svs hk1
        simp only [HLv.out]
        exact this
      have HSt := hidOf (leastR_snoc v.se (v.sb.take k) (sg M.xs k).s)
      rw [← hst] at HSt
      rw [ea] at p4
      generalize (sg M.xs k).s.cu = cu at hc2 HSt
      generalize leastR v.se (v.sb.take k) = m at HSt
      have hki : (k : Int) < (M.s : Int) := by omega
      clear hst hcell hk1 hk2 ea
      by_cases hcm : cu < m
      · go_wp2
        go_round
        case rel => exact ⟨k + 1, by omega, by go_num, by rw [HSt.out, if_pos hcm]⟩
        case measure => simp [intOf]; omega
      · go_wp2
        go_round
        case rel => exact ⟨k + 1, by omega, by go_num, by rw [HSt.out, if_neg (by omega)]⟩
        case measure => simp [intOf]; omega
    · have e : v.sb.take k = v.sb := List.take_of_length_le (by rw [HLv.out]; simp [svs]; have := HL.out; omega)
      rw [e]
      have HO := hidOf (show oldR v = (if (if leastR v.se v.sb < v.se - v.cp then v.se - v.cp else leastR v.se v.sb) < 0 then 0 else (if leastR v.se v.sb < v.se - v.cp then v.se - v.cp else leastR v.se v.sb)) from rfl)
      generalize leastR v.se v.sb = m at HO
      have hsub : wrap64 (v.se - v.cp) = v.se - v.cp := by have h1 := HSe.out; have h2 := HCp.out; unfold wrap64; omega
      have h1 := HSe.out
      have h2 := HCp.out
      clear e
      by_cases hc : m < v.se - v.cp
      · by_cases hz : v.se - v.cp < 0
        · have HV := hidOf (show oldR v = 0 by rw [HO.out, if_pos hc, if_pos hz])
          go_wp2
          go_ret
          exact ⟨rint HV.out.symm, HB.out⟩
        · have HV := hidOf (show oldR v = v.se - v.cp by rw [HO.out, if_pos hc, if_neg hz])
          go_wp2
          go_ret
          exact ⟨rint HV.out.symm, HB.out⟩
      · by_cases hz : m < 0
        · have HV := hidOf (show oldR v = 0 by rw [HO.out, if_neg hc, if_pos hz])
          go_wp2
          go_ret
          exact ⟨rint HV.out.symm, HB.out⟩
        · have HV := hidOf (show oldR v = m by rw [HO.out, if_neg hc, if_neg hz])
          go_wp2
          go_ret
          exact ⟨rint HV.out.symm, HB.out⟩
set_option maxHeartbeats 2000000 in
theorem l9At_any (M : Rm) (v : Rv) (id : Int) (w : World) (hI : RIn w M v) (hm : RLe M 2097152) :
    Calls Tryz.prog 30 #[.agg #[.int .i64 v.cp, .int .i64 v.se, .slice M.ia M.i M.ic, .int .i64 v.nx, .slice M.sa M.s M.sc, .slice M.la M.l M.lc, .slice M.ga M.g M.gc, .bool v.cl], .int .i64 id] w fun e w' => e = .returned (.int .i64 (atR v.sb id)) ∧ Below w.heap.size w w' := by
  obtain ⟨W0, hW0⟩ : ∃ W, W = w.alloc (.cells #[.int .i64 v.cp, .int .i64 v.se, .slice M.ia M.i M.ic, .int .i64 v.nx, .slice M.sa M.s M.sc, .slice M.la M.l M.lc, .slice M.ga M.g M.gc, .bool v.cl] 53) := ⟨_, rfl⟩
  have b0 : Below w.heap.size w W0 := by rw [hW0]; exact bl_alloc (Below.refl _ _) _
  have X0 : BoxL w.heap.size (rC M v) W0 := by rw [hW0]; exact BoxL.new w (rC M v) _
  have p4 := X0.cs 4 (by simp)
  simp at p4
  have hl := hI.sb.len
  have hlv : v.sb = svs M.xs := hI.sv.symm
  have hsn := hm.s
  have HR := hidOf (hI.sb.keep b0).row
  have HLv := hidOf hlv
  have HL := hidOf hl
  have HB := hidOf b0
  clear hI hm hl hlv X0 b0
  go_enter Tryz.func30, Tryz.ntmps30
  go_wp2_with fail
  rw [← hW0]
  clear hW0
  go_loop [5] (fun i => ∃ k : Nat, k ≤ M.s ∧ i = .int .i64 k ∧ ∀ j, j < k → ¬ (sg M.xs j).s.id = id) (fun i => M.s - (intOf i).toNat)
  case atStart => exact ⟨0, Nat.zero_le _, rfl, fun j hj => by omega⟩
  case round =>
    obtain ⟨k, hk, rfl, hno⟩ := hrel
    have HNo := hidOf hno
    clear hno
    by_cases hlt : k < M.s
    · obtain hr | ⟨b, off, ea, hb, hcell⟩ := HR.out
      · omega
      have hc0 := (hcell k hlt).c0
      rw [ea] at p4
      have hki : (k : Int) < (M.s : Int) := by omega
      clear hcell ea
      obtain ⟨q, hq⟩ : ∃ q, (sg M.xs k).s.id = q := ⟨_, rfl⟩
      rw [hq] at hc0
      have HQ := hidOf hq
      clear hq
      by_cases he : q = id
      · have he2 : (q == id) = true := by simp [he]
        have HE := hidOf he
        clear he
        go_wp2
        go_ret
        refine ⟨rint ?_, HB.out⟩
        symm
        have hk1 : k < M.xs.length := by rw [HL.out]; exact hlt
        have hk2 : k < v.sb.length := by rw [HLv.out]; simpa [svs] using hk1
        refine atR_at hk2 (fun j hj => ?_) ?_
        · have := HNo.out j hj
          have e2 := sg_svs (xs := M.xs) (k := j) (by omega)
          simp only [HLv.out]
          rw [e2]
          exact this
        · have e2 := sg_svs hk1
          simp only [HLv.out]
          rw [e2, HQ.out]
          exact HE.out
      · have he2 : (q == id) = false := by simp [he]
        have HE := hidOf he
        clear he
        go_wp2
        go_round
        case rel => exact ⟨k + 1, by omega, by go_num, fun j hj => (by
          by_cases e : j = k
          · rw [e, HQ.out]; exact HE.out
          · exact HNo.out j (by omega))⟩
        case measure => simp [intOf]; omega
    · go_wp2
      go_ret
      refine ⟨rint ?_, HB.out⟩
      symm
      refine atR_none (fun j hj => ?_)
      have hj1 : j < M.xs.length := by rw [HLv.out] at hj; simpa [svs] using hj
      have e2 := sg_svs hj1
      simp only [HLv.out]
      rw [e2]
      exact HNo.out j (by have := HL.out; omega)
end Go.Proofs.YtffpecdjfcgadaaGreatDoor
namespace Go.Proofs.YtffpecdjfcgadaaGreatDoor
open Go.RowKit Pl Il

theorem cellF {w w' : World} {a : Addr} {v : Value} (h : w.cell? a = some v) (hb : Below w.heap.size w w') : w'.cell? a = some v := by
  rw [hb.cell (p := a) (World.block_lt_of_cell? w a h)]; exact h
theorem inF_any (x a b : Int) (w : World) : Calls Tryz.prog 15 #[.int .i64 x, .int .i64 a, .int .i64 b] w fun e w' => e = .returned (.bool (decide (a ≤ x) && decide (x ≤ b))) ∧ w' = w := by
  go_enter Tryz.func15, Tryz.ntmps15
  go_wp2
  all_goals go_ret
  all_goals refine ⟨rbool ?_, rfl⟩
  all_goals first | (simp_all; done) | (simp_all; omega)
theorem l8Part_any (s : ByteArray) (w : World) (hs : s.size ≤ maxLen) :
    Calls Tryz.prog 101 #[.string s] w fun e w' => e = .returned (.bool (partB s)) ∧ w' = w := by
  unfold maxLen at hs
  by_cases h : 1 ≤ (s.size : Int) ∧ (s.size : Int) ≤ 10
  · have hd : (decide (1 ≤ (s.size : Int)) && decide ((s.size : Int) ≤ 10)) = true := by simp [h]
    go_enter Tryz.func101, Tryz.ntmps101
    go_wp2_with fail
    refine (inF_any _ _ _ _).mono ?_
    rintro e w1 ⟨rfl, rfl⟩
    rw [hd]
    go_wp2
    go_loop [3] (fun i => ∃ k : Nat, k ≤ s.size ∧ i = .int .i64 k ∧ letL (s.data.toList.take k) = true) (fun i => s.size - (intOf i).toNat)
    case atStart => exact ⟨0, Nat.zero_le _, rfl, rfl⟩
    case round =>
      obtain ⟨k, hk, rfl, hp⟩ := hrel
      by_cases hlt : k < s.size
      · go_wp2
        all_goals first
          | (go_ret; exact ⟨rbool (part_bad s k hlt (let_no _ (by omega))).symm, rfl⟩)
          | (go_round
             case rel => exact ⟨k + 1, by omega, by go_num, let_step s k hlt hp (let_yes _ (by omega) (by omega))⟩
             case measure => simp [intOf]; omega)
      · go_wp2
        go_ret
        exact ⟨rbool (part_all s k h.1 h.2 (by omega) hp).symm, rfl⟩
  · have hd : (decide (1 ≤ (s.size : Int)) && decide ((s.size : Int) ≤ 10)) = false := by
      rw [Bool.and_eq_false_iff]
      by_cases h1 : 1 ≤ (s.size : Int)
      · right; simp; omega
      · left; simp; omega
    have hq := part_size s h
    go_enter Tryz.func101, Tryz.ntmps101
    go_wp2_with fail
    refine (inF_any _ _ _ _).mono ?_
    rintro e w1 ⟨rfl, rfl⟩
    rw [hd]
    go_wp2
    go_ret
    first | exact ⟨rbool hq.symm, rfl⟩ | exact ⟨rfl, rfl⟩
set_option maxHeartbeats 1000000 in
theorem l8Takes_any (t : Tm) (w : World) (hs : t.2.2.size ≤ maxLen) :
    Calls Tryz.prog 91 #[.agg #[.int .i64 t.1, .int .i64 t.2.1, .string t.2.2]] w fun e w' => e = .returned (.int .i64 (takesM t)) ∧ Below w.heap.size w w' := by
  obtain ⟨op, n, s⟩ := t
  simp only at hs ⊢
  go_enter Tryz.func91, Tryz.ntmps91
  go_wp2_with (first
    | (go_at_call 101; refine (l8Part_any s _ hs).mono ?_; rintro e w1 ⟨rfl, rfl⟩)
    | (go_at_call 15; refine (inF_any _ _ _ _).mono ?_; rintro e w1 ⟨rfl, rfl⟩))
  all_goals go_ret
  all_goals refine ⟨rint ?_, bl_alloc (Below.refl _ _) _⟩
  all_goals first | (simp_all [takesM, okTm, cntM]; done) | (simp_all [takesM, okTm, cntM]; omega)
theorem takes_no {t : Tm} (h : okTm t = false) : takesM t = -1 := by simp [takesM, h]
theorem takes_yes {t : Tm} (h : okTm t = true) : takesM t = (cntM t.1 : Int) := by simp [takesM, h]
set_option maxHeartbeats 1000000 in
theorem specFilterOk_any (a : Option Addr) (n cap : Nat) (ts : List Tm) (w : World) (hI : TmAt w a n ts) (hn : n ≤ 9223372036854775807) :
    Calls Tryz.prog 73 #[.slice a n cap] w fun e w' => e = .returned (.bool (okF ts)) ∧ Below w.heap.size w w' := by
  obtain ⟨hlen, hsh, hr⟩ := hI
  by_cases h12 : 12 < (n : Int)
  · have hq := okF_long (f := ts) (by omega)
    clear hr
    go_enter Tryz.func73, Tryz.ntmps73
    go_wp2
    go_ret
    first | exact ⟨rbool hq.symm, Below.refl _ _⟩ | exact ⟨rfl, Below.refl _ _⟩
  have HS := hidOf hsh
  have HL := hidOf hlen
  have HR := hidOf hr
  clear hsh hlen hr
  go_enter Tryz.func73, Tryz.ntmps73
  go_wp2
  go_loopw [3, 4] (fun x i wr => ∃ k m : Nat, k ≤ n ∧ i = .int .i64 k ∧ x = .int .i64 (m : Int) ∧ goN (ts.take k) 0 = some m ∧ m ≤ k ∧ Below w.heap.size w wr) (fun _ i _ => n - (intOf i).toNat)
  case atStart => exact ⟨0, 0, Nat.zero_le _, rfl, rfl, rfl, Nat.le_refl _, Below.refl _ _⟩
  case round =>
    rename_i wr
    obtain ⟨k, m, hk, rfl, rfl, hgo, hmk, hB⟩ := hrel
    have HG := hidOf hgo
    clear hgo
    by_cases hlt : k < n
    · have hkl : k < ts.length := by rw [HL.out]; exact hlt
      obtain hr | ⟨b, off, rfl, hb, hcell⟩ := HR.out
      · omega
      obtain ⟨q0, q1, q2⟩ := hcell k hlt
      have hc := cellF q0 hB
      have hc2 := cellF q1 hB
      have hc3 := cellF q2 hB
      have HC := fun u => hidOf (l8Takes_any (qg ts k) u (HS.out _ (qg_mem hkl)))
      have HK := hidOf hkl
      obtain ⟨z, hz⟩ : ∃ z, qg ts k = z := ⟨_, rfl⟩
      rw [hz] at hc hc2 hc3 HC
      have HZ := hidOf hz
      clear hz hcell q0 q1 q2 hkl
      go_wp2_with fail
      refine ((HC _).out).mono ?_
      rintro e w1 ⟨rfl, hb1⟩
      have hB1 := bl_trans hB hb1
      clear HC hc hc2 hc3 hb1 hB
      have hcl := cnt_le z.1
      cases hok : okTm z
      · have HQ := hidOf (okF_stop HK.out HG.out (.inl (by rw [HZ.out]; exact hok)))
        rw [takes_no hok]
        clear hok
        go_wp2
        go_ret
        exact ⟨rbool HQ.out.symm, hB1⟩
      · rw [takes_yes hok]
        obtain ⟨c, hc⟩ : ∃ c, cntM z.1 = c := ⟨_, rfl⟩
        rw [hc] at hcl ⊢
        have hc0 : ¬ (c : Int) < 0 := by omega
        by_cases hmc : (m : Int) < (c : Int)
        · have HQ := hidOf (okF_stop HK.out HG.out (.inr (by rw [HZ.out, hc]; omega)))
          clear hok
          go_wp2
          go_ret
          exact ⟨rbool HQ.out.symm, hB1⟩
        · have HQ := hidOf (goN_step HK.out HG.out (by rw [HZ.out]; exact hok) (by rw [HZ.out, hc]; omega))
          rw [HZ.out, hc] at HQ
          clear hok
          go_wp2
          go_roundw
          case rel => exact ⟨k + 1, m - c + 1, by omega, by go_num, by go_num, HQ.out, by omega, hB1⟩
          case measure => simp [intOf]; omega
    · obtain rfl : k = n := by omega
      have hg : goN ts 0 = some m := by
        have := HG.out
        rwa [List.take_of_length_le (by rw [HL.out]; exact Nat.le_refl _)] at this
      by_cases h0 : k = 0
      · subst h0
        have hx : ts = [] := List.length_eq_zero_iff.1 HL.out
        subst hx
        have hm0 : m = 0 := by omega
        subst hm0
        go_wp2
        go_ret
        exact ⟨rfl, hB⟩
      · have hq := okF_end (f := ts) (by rintro rfl; have := HL.out; simp at this; omega) (by have := HL.out; omega) hg
        have hk0 : ((k : Int) == 0) = false := by simp; omega
        have HQ := hidOf hq
        clear hq hg
        by_cases hm1 : (m : Int) = 1
        · have e1 : ((m : Int) == 1) = true := by simp [hm1]
          go_wp2
          go_ret
          exact ⟨rbool (by rw [HQ.out]; simp [hm1]), hB⟩
        · have e1 : ((m : Int) == 1) = false := by simp [hm1]
          go_wp2
          go_ret
          exact ⟨rbool (by rw [HQ.out]; simp [hm1]), hB⟩
end Go.Proofs.YtffpecdjfcgadaaGreatDoor
namespace Go.Proofs.YtffpecdjfcgadaaGreatDoor
open Go.RowKit Pl Il

theorem l1InS_any (x a b : Int) (w : World) : Calls Tryz.prog 15 #[.int .i64 x, .int .i64 a, .int .i64 b] w fun e w' => e = .returned (.bool (decide (a ≤ x ∧ x ≤ b))) ∧ w' = w := by
  by_cases h1 : a ≤ x
  · by_cases h2 : x ≤ b
    all_goals
      go_enter Tryz.func15, Tryz.ntmps15
      go_wp2
      go_ret
      exact ⟨by simp [h1, h2], rfl⟩
  · go_enter Tryz.func15, Tryz.ntmps15
    go_wp2
    go_ret
    refine ⟨?_, rfl⟩
    have h2 : decide (a ≤ x) = false := by simp only [decide_eq_false_iff_not]; omega
    simp only [h2, Bool.false_and]
    rfl
set_option maxHeartbeats 4000000 in
theorem l9SubOk_any (M : Rm) (v : Rv) (x : Sa) (w : World) (hF : TmAt w x.a x.n x.s.fl) (hn : x.n ≤ 2097152) (hse : 0 ≤ v.se ∧ v.se ≤ 1000000000) (hnx : 0 ≤ v.nx ∧ v.nx ≤ 1000000000) :
    Calls Tryz.prog 47 #[.agg #[.int .i64 v.cp, .int .i64 v.se, .slice M.ia M.i M.ic, .int .i64 v.nx, .slice M.sa M.s M.sc, .slice M.la M.l M.lc, .slice M.ga M.g M.gc, .bool v.cl], .agg #[.int .i64 x.s.id, .int .i64 x.s.st, .int .i64 x.s.cu, .int .i64 x.s.gt, .int .i64 x.s.lo, .int .i64 x.s.pa, .slice x.a x.n x.c]] w fun e w' => e = .returned (.bool (subR v x.s)) ∧ Below w.heap.size w w' := by
  obtain ⟨⟨i, t, u, g, o, p, fl⟩, fa, fn, fc⟩ := x
  simp only at hF hn ⊢
  have hB : Below w.heap.size w ((w.alloc (.cells #[.int .i64 v.cp, .int .i64 v.se, .slice M.ia M.i M.ic, .int .i64 v.nx, .slice M.sa M.s M.sc, .slice M.la M.l M.lc, .slice M.ga M.g M.gc, .bool v.cl] 53)).alloc (.cells #[.int .i64 i, .int .i64 t, .int .i64 u, .int .i64 g, .int .i64 o, .int .i64 p, .slice fa fn fc] 90)) := bl_alloc (bl_alloc (Below.refl _ _) _) _
  have HF := hidOf (hF.keep hB)
  have HB := hidOf hB
  have hwn : wrap64 (v.nx - 1) = v.nx - 1 := by unfold wrap64; omega
  clear hF hB
  by_cases h0 : 0 ≤ i ∧ i ≤ v.nx - 1
  case neg =>
    have HV := hidOf (show subR v ⟨i, t, u, g, o, p, fl⟩ = false by
      unfold subR subHead subSums
      simp only [Bool.and_eq_false_iff, decide_eq_false_iff_not]
      omega)
    have hd : decide (0 ≤ i ∧ i ≤ v.nx - 1) = false := by simp only [decide_eq_false_iff_not]; exact h0
    go_enter Tryz.func47, Tryz.ntmps47
    go_wp2_with (go_at_call 15; refine (l1InS_any _ _ _ _).mono ?_; rintro e w' ⟨rfl, rfl⟩; rw [hd])
    go_ret
    exact ⟨rbool HV.out.symm, HB.out⟩
  by_cases h1 : ¬ t < 0
  case neg =>
    have HV := hidOf (show subR v ⟨i, t, u, g, o, p, fl⟩ = false by
      unfold subR subHead subSums
      simp only [Bool.and_eq_false_iff, decide_eq_false_iff_not]
      omega)
    have hd : decide (0 ≤ i ∧ i ≤ v.nx - 1) = true := by simp [h0]
    go_enter Tryz.func47, Tryz.ntmps47
    go_wp2_with (go_at_call 15; refine (l1InS_any _ _ _ _).mono ?_; rintro e w' ⟨rfl, rfl⟩; rw [hd])
    go_ret
    exact ⟨rbool HV.out.symm, HB.out⟩
  by_cases h2 : ¬ u < t
  case neg =>
    have HV := hidOf (show subR v ⟨i, t, u, g, o, p, fl⟩ = false by
      unfold subR subHead subSums
      simp only [Bool.and_eq_false_iff, decide_eq_false_iff_not]
      omega)
    have hd : decide (0 ≤ i ∧ i ≤ v.nx - 1) = true := by simp [h0]
    go_enter Tryz.func47, Tryz.ntmps47
    go_wp2_with (go_at_call 15; refine (l1InS_any _ _ _ _).mono ?_; rintro e w' ⟨rfl, rfl⟩; rw [hd])
    go_ret
    exact ⟨rbool HV.out.symm, HB.out⟩
  by_cases h3 : ¬ v.se < u
  case neg =>
    have HV := hidOf (show subR v ⟨i, t, u, g, o, p, fl⟩ = false by
      unfold subR subHead subSums
      simp only [Bool.and_eq_false_iff, decide_eq_false_iff_not]
      omega)
    have hd : decide (0 ≤ i ∧ i ≤ v.nx - 1) = true := by simp [h0]
    go_enter Tryz.func47, Tryz.ntmps47
    go_wp2_with (go_at_call 15; refine (l1InS_any _ _ _ _).mono ?_; rintro e w' ⟨rfl, rfl⟩; rw [hd])
    go_ret
    exact ⟨rbool HV.out.symm, HB.out⟩
  by_cases h4 : ¬ g < 0
  case neg =>
    have HV := hidOf (show subR v ⟨i, t, u, g, o, p, fl⟩ = false by
      unfold subR subHead subSums
      simp only [Bool.and_eq_false_iff, decide_eq_false_iff_not]
      omega)
    have hd : decide (0 ≤ i ∧ i ≤ v.nx - 1) = true := by simp [h0]
    go_enter Tryz.func47, Tryz.ntmps47
    go_wp2_with (go_at_call 15; refine (l1InS_any _ _ _ _).mono ?_; rintro e w' ⟨rfl, rfl⟩; rw [hd])
    go_ret
    exact ⟨rbool HV.out.symm, HB.out⟩
  by_cases h5 : ¬ o < 0
  case neg =>
    have HV := hidOf (show subR v ⟨i, t, u, g, o, p, fl⟩ = false by
      unfold subR subHead subSums
      simp only [Bool.and_eq_false_iff, decide_eq_false_iff_not]
      omega)
    have hd : decide (0 ≤ i ∧ i ≤ v.nx - 1) = true := by simp [h0]
    go_enter Tryz.func47, Tryz.ntmps47
    go_wp2_with (go_at_call 15; refine (l1InS_any _ _ _ _).mono ?_; rintro e w' ⟨rfl, rfl⟩; rw [hd])
    go_ret
    exact ⟨rbool HV.out.symm, HB.out⟩
  by_cases h6 : ¬ p < 0
  case neg =>
    have HV := hidOf (show subR v ⟨i, t, u, g, o, p, fl⟩ = false by
      unfold subR subHead subSums
      simp only [Bool.and_eq_false_iff, decide_eq_false_iff_not]
      omega)
    have hd : decide (0 ≤ i ∧ i ≤ v.nx - 1) = true := by simp [h0]
    go_enter Tryz.func47, Tryz.ntmps47
    go_wp2_with (go_at_call 15; refine (l1InS_any _ _ _ _).mono ?_; rintro e w' ⟨rfl, rfl⟩; rw [hd])
    go_ret
    exact ⟨rbool HV.out.symm, HB.out⟩
  by_cases h7 : g ≤ u - t
  case neg =>
    have HV := hidOf (show subR v ⟨i, t, u, g, o, p, fl⟩ = false by
      unfold subR subHead subSums
      simp only [Bool.and_eq_false_iff, decide_eq_false_iff_not]
      omega)
    have hd : decide (0 ≤ i ∧ i ≤ v.nx - 1) = true := by simp [h0]
    have hw1 : wrap64 (u - t) = u - t := by unfold wrap64; omega
    go_enter Tryz.func47, Tryz.ntmps47
    go_wp2_with (go_at_call 15; refine (l1InS_any _ _ _ _).mono ?_; rintro e w' ⟨rfl, rfl⟩; rw [hd])
    go_ret
    exact ⟨rbool HV.out.symm, HB.out⟩
  by_cases h8 : o ≤ u - t
  case neg =>
    have HV := hidOf (show subR v ⟨i, t, u, g, o, p, fl⟩ = false by
      unfold subR subHead subSums
      simp only [Bool.and_eq_false_iff, decide_eq_false_iff_not]
      omega)
    have hd : decide (0 ≤ i ∧ i ≤ v.nx - 1) = true := by simp [h0]
    have hw1 : wrap64 (u - t) = u - t := by unfold wrap64; omega
    go_enter Tryz.func47, Tryz.ntmps47
    go_wp2_with (go_at_call 15; refine (l1InS_any _ _ _ _).mono ?_; rintro e w' ⟨rfl, rfl⟩; rw [hd])
    go_ret
    exact ⟨rbool HV.out.symm, HB.out⟩
  by_cases h9 : p ≤ u - t
  case neg =>
    have HV := hidOf (show subR v ⟨i, t, u, g, o, p, fl⟩ = false by
      unfold subR subHead subSums
      simp only [Bool.and_eq_false_iff, decide_eq_false_iff_not]
      omega)
    have hd : decide (0 ≤ i ∧ i ≤ v.nx - 1) = true := by simp [h0]
    have hw1 : wrap64 (u - t) = u - t := by unfold wrap64; omega
    go_enter Tryz.func47, Tryz.ntmps47
    go_wp2_with (go_at_call 15; refine (l1InS_any _ _ _ _).mono ?_; rintro e w' ⟨rfl, rfl⟩; rw [hd])
    go_ret
    exact ⟨rbool HV.out.symm, HB.out⟩
  by_cases h10 : g + o + p = u - t
  case neg =>
    have HV := hidOf (show subR v ⟨i, t, u, g, o, p, fl⟩ = false by
      unfold subR subHead subSums
      simp only [Bool.and_eq_false_iff, decide_eq_false_iff_not]
      omega)
    have hq : (g + o + p == u - t) = false := by simp [h10]
    have hd : decide (0 ≤ i ∧ i ≤ v.nx - 1) = true := by simp [h0]
    have hw1 : wrap64 (u - t) = u - t := by unfold wrap64; omega
    have hw2 : wrap64 (g + o) = g + o := by unfold wrap64; omega
    have hw3 : wrap64 (g + o + p) = g + o + p := by unfold wrap64; omega
    go_enter Tryz.func47, Tryz.ntmps47
    go_wp2_with (go_at_call 15; refine (l1InS_any _ _ _ _).mono ?_; rintro e w' ⟨rfl, rfl⟩; rw [hd])
    go_ret
    exact ⟨rbool HV.out.symm, HB.out⟩
  have hd : decide (0 ≤ i ∧ i ≤ v.nx - 1) = true := by simp [h0]
  have hw1 : wrap64 (u - t) = u - t := by unfold wrap64; omega
  have hw2 : wrap64 (g + o) = g + o := by unfold wrap64; omega
  have hw3 : wrap64 (g + o + p) = g + o + p := by unfold wrap64; omega
  have hq : (g + o + p == u - t) = true := by simp [h10]
  have HV := hidOf (show subR v ⟨i, t, u, g, o, p, fl⟩ = okF fl by
    have e1 : subHead v ⟨i, t, u, g, o, p, fl⟩ = true := by
      unfold subHead
      simp only [Bool.and_eq_true, decide_eq_true_eq]
      omega
    have e2 : subSums ⟨i, t, u, g, o, p, fl⟩ = true := by
      unfold subSums
      simp only [Bool.and_eq_true, decide_eq_true_eq]
      omega
    unfold subR
    rw [e1, e2]
    rfl)
  clear h10
  go_enter Tryz.func47, Tryz.ntmps47
  go_wp2_with (go_at_call 15; refine (l1InS_any _ _ _ _).mono ?_; rintro e w' ⟨rfl, rfl⟩; rw [hd])
  refine (specFilterOk_any fa fn fc fl _ HF.out (by omega)).mono ?_
  rintro e w1 ⟨rfl, hb1⟩
  have hB1 := bl_trans HB.out hb1
  clear hb1
  go_wp2
  go_ret
  exact ⟨rbool HV.out.symm, hB1⟩
end Go.Proofs.YtffpecdjfcgadaaGreatDoor
namespace Go.Proofs.YtffpecdjfcgadaaGreatDoor
open Go.RowKit Pl Il

/-- The argument's variable, and what it reads as. -/
structure RHold (w : World) (M : Rm) (v : Rv) (u : World) : Prop where
  box : BoxL w.heap.size (rC M v) u
  rin : RIn u M v
  below : Below w.heap.size w u
theorem RHold.keep {w : World} {M : Rm} {v : Rv} {u u' : World} (h : RHold w M v u) (hb : Below u.heap.size u u') : RHold w M v u' := ⟨h.box.keep hb, h.rin.keep hb, bl_trans h.below hb⟩
/-- The ring's cells, one subscriber's, and the number of one ahead of it. -/
abbrev RSub (w : World) (M : Rm) (v : Rv) (sa : Option Addr) (b o q : Nat) (x y : Sa) (u : World) : Prop :=
  u.cell? ⟨w.heap.size, 0, none⟩ = some (.int .i64 v.cp) ∧ u.cell? ⟨w.heap.size, 1, none⟩ = some (.int .i64 v.se) ∧ u.cell? ⟨w.heap.size, 2, none⟩ = some (.slice M.ia M.i M.ic) ∧ u.cell? ⟨w.heap.size, 3, none⟩ = some (.int .i64 v.nx) ∧ u.cell? ⟨w.heap.size, 4, none⟩ = some (.slice sa M.s M.sc) ∧ u.cell? ⟨w.heap.size, 5, none⟩ = some (.slice M.la M.l M.lc) ∧ u.cell? ⟨w.heap.size, 6, none⟩ = some (.slice M.ga M.g M.gc) ∧ u.cell? ⟨w.heap.size, 7, none⟩ = some (.bool v.cl) ∧ u.cell? ⟨b, o, none⟩ = some (.int .i64 x.s.id) ∧ u.cell? ⟨b, o + 1, none⟩ = some (.int .i64 x.s.st) ∧ u.cell? ⟨b, o + 2, none⟩ = some (.int .i64 x.s.cu) ∧ u.cell? ⟨b, o + 3, none⟩ = some (.int .i64 x.s.gt) ∧ u.cell? ⟨b, o + 4, none⟩ = some (.int .i64 x.s.lo) ∧ u.cell? ⟨b, o + 5, none⟩ = some (.int .i64 x.s.pa) ∧ u.cell? ⟨b, o + 6, none⟩ = some (.slice x.a x.n x.c) ∧ u.cell? ⟨b, q, none⟩ = some (.int .i64 y.s.id) ∧ RHold w M v u
theorem RSub.hold {w : World} {M : Rm} {v : Rv} {sa : Option Addr} {b o q : Nat} {x y : Sa} {u : World} (h : RSub w M v sa b o q x y u) : RHold w M v u := h.2.2.2.2.2.2.2.2.2.2.2.2.2.2.2.2
theorem RSub.keep {w : World} {M : Rm} {v : Rv} {sa : Option Addr} {b o q : Nat} {x y : Sa} {u u' : World} (h : RSub w M v sa b o q x y u) (hb : Below u.heap.size u u') : RSub w M v sa b o q x y u' := by
  obtain ⟨h0, h1, h2, h3, h4, h5, h6, h7, h8, h9, h10, h11, h12, h13, h14, h15, hh⟩ := h
  exact ⟨cellK h0 hb, cellK h1 hb, cellK h2 hb, cellK h3 hb, cellK h4 hb, cellK h5 hb, cellK h6 hb, cellK h7 hb, cellK h8 hb, cellK h9 hb, cellK h10 hb, cellK h11 hb, cellK h12 hb, cellK h13 hb, cellK h14 hb, cellK h15 hb, hh.keep hb⟩
theorem RSub.drew {w : World} {M : Rm} {v : Rv} {sa : Option Addr} {b o q : Nat} {x y : Sa} {u : World} (h : RSub w M v sa b o q x y u) : RSub w M v sa b o q x y u.drew := h.keep (Below.refl _ _).drew
theorem RHold.sub {w : World} {M : Rm} {v : Rv} {sa : Option Addr} {b o q : Nat} {x y : Sa} {u : World} (h : RHold w M v u) (ea : M.sa = sa) (hx : SCell u b o x) (hy : u.cell? ⟨b, q, none⟩ = some (.int .i64 y.s.id)) : RSub w M v sa b o q x y u :=
  ⟨h.box.cs 0 (by simp), h.box.cs 1 (by simp), h.box.cs 2 (by simp), h.box.cs 3 (by simp), by rw [← ea]; exact h.box.cs 4 (by simp), h.box.cs 5 (by simp), h.box.cs 6 (by simp), h.box.cs 7 (by simp), hx.c0, hx.c1, hx.c2, hx.c3, hx.c4, hx.c5, hx.c6, hy, h⟩
/-- The ring's cells alone. -/
abbrev RCel (w : World) (M : Rm) (v : Rv) (u : World) : Prop := u.cell? ⟨w.heap.size, 0, none⟩ = some (.int .i64 v.cp) ∧ u.cell? ⟨w.heap.size, 1, none⟩ = some (.int .i64 v.se) ∧ u.cell? ⟨w.heap.size, 2, none⟩ = some (.slice M.ia M.i M.ic) ∧ u.cell? ⟨w.heap.size, 3, none⟩ = some (.int .i64 v.nx) ∧ u.cell? ⟨w.heap.size, 4, none⟩ = some (.slice M.sa M.s M.sc) ∧ u.cell? ⟨w.heap.size, 5, none⟩ = some (.slice M.la M.l M.lc) ∧ u.cell? ⟨w.heap.size, 6, none⟩ = some (.slice M.ga M.g M.gc) ∧ u.cell? ⟨w.heap.size, 7, none⟩ = some (.bool v.cl) ∧ RHold w M v u
theorem RCel.hold {w : World} {M : Rm} {v : Rv} {u : World} (h : RCel w M v u) : RHold w M v u := h.2.2.2.2.2.2.2.2
theorem RHold.cel {w : World} {M : Rm} {v : Rv} {u : World} (h : RHold w M v u) : RCel w M v u := ⟨h.box.cs 0 (by simp), h.box.cs 1 (by simp), h.box.cs 2 (by simp), h.box.cs 3 (by simp), h.box.cs 4 (by simp), h.box.cs 5 (by simp), h.box.cs 6 (by simp), h.box.cs 7 (by simp), h⟩
theorem RCel.keep {w : World} {M : Rm} {v : Rv} {u u' : World} (h : RCel w M v u) (hb : Below u.heap.size u u') : RCel w M v u' := (h.hold.keep hb).cel
theorem RCel.drew {w : World} {M : Rm} {v : Rv} {u : World} (h : RCel w M v u) : RCel w M v u.drew := h.keep (Below.refl _ _).drew
/-- The ring's cells, its flag a written one. -/
abbrev RCelC (w : World) (M : Rm) (v : Rv) (c : Bool) (u : World) : Prop := u.cell? ⟨w.heap.size, 0, none⟩ = some (.int .i64 v.cp) ∧ u.cell? ⟨w.heap.size, 1, none⟩ = some (.int .i64 v.se) ∧ u.cell? ⟨w.heap.size, 2, none⟩ = some (.slice M.ia M.i M.ic) ∧ u.cell? ⟨w.heap.size, 3, none⟩ = some (.int .i64 v.nx) ∧ u.cell? ⟨w.heap.size, 4, none⟩ = some (.slice M.sa M.s M.sc) ∧ u.cell? ⟨w.heap.size, 5, none⟩ = some (.slice M.la M.l M.lc) ∧ u.cell? ⟨w.heap.size, 6, none⟩ = some (.slice M.ga M.g M.gc) ∧ u.cell? ⟨w.heap.size, 7, none⟩ = some (.bool c) ∧ RHold w M v u ∧ Hid (v.cl = c)
theorem RCelC.hold {w : World} {M : Rm} {v : Rv} {c : Bool} {u : World} (h : RCelC w M v c u) : RHold w M v u := h.2.2.2.2.2.2.2.2.1
theorem RCel.flag {w : World} {M : Rm} {v : Rv} {c : Bool} {u : World} (h : RCel w M v u) (hc : v.cl = c) : RCelC w M v c u := by
  subst hc
  obtain ⟨h0, h1, h2, h3, h4, h5, h6, h7, hh⟩ := h
  exact ⟨h0, h1, h2, h3, h4, h5, h6, h7, hh, rfl⟩
theorem RCelC.keep {w : World} {M : Rm} {v : Rv} {c : Bool} {u u' : World} (h : RCelC w M v c u) (hb : Below u.heap.size u u') : RCelC w M v c u' := (h.hold.keep hb).cel.flag (h.2.2.2.2.2.2.2.2.2).out
theorem RCelC.drew {w : World} {M : Rm} {v : Rv} {c : Bool} {u : World} (h : RCelC w M v c u) : RCelC w M v c u.drew := h.keep (Below.refl _ _).drew
/-- As many messages as from the oldest on; not too many who wait, and none where it is closed. -/
def lenR (v : Rv) : Bool := decide ((v.it.length : Int) = v.se - oldR v) && (decide (v.ln.length + v.gs.length ≤ 12) && !(v.cl && decide (0 < v.ln.length)))
/-- The head: numbers in their bounds, not too many. -/
def headR (v : Rv) : Bool := decide (1 ≤ v.cp ∧ v.cp ≤ 16) && decide (0 ≤ v.se ∧ v.se ≤ 1000000000) && decide (0 ≤ v.nx ∧ v.nx ≤ 1000000000) && decide (v.sb.length ≤ 12) && decide (v.it.length ≤ 16)
/-- The first k subscribers are right, by rising numbers. -/
def subsTo (v : Rv) (k : Nat) : Bool := (List.range k).all fun i => subR v (v.sb.getD i ⟨0, 0, 0, 0, 0, 0, []⟩) && (decide (i = 0) || decide ((v.sb.getD (i - 1) ⟨0, 0, 0, 0, 0, 0, []⟩).id < (v.sb.getD i ⟨0, 0, 0, 0, 0, 0, []⟩).id))
theorem subsTo_succ (v : Rv) (k : Nat) : subsTo v (k + 1) = (subsTo v k && (subR v (v.sb.getD k ⟨0, 0, 0, 0, 0, 0, []⟩) && (decide (k = 0) || decide ((v.sb.getD (k - 1) ⟨0, 0, 0, 0, 0, 0, []⟩).id < (v.sb.getD k ⟨0, 0, 0, 0, 0, 0, []⟩).id)))) := by
  unfold subsTo
  rw [List.range_succ, List.all_append]
  simp
theorem subsTo_bad {v : Rv} {k n : Nat} (h : subsTo v k = false) (hk : k ≤ n) : subsTo v n = false := by
  unfold subsTo at *
  rw [List.all_eq_false] at *
  obtain ⟨i, hi, hb⟩ := h
  exact ⟨i, by simp at hi ⊢; omega, hb⟩
theorem sb_get {M : Rm} {v : Rv} (h : svs M.xs = v.sb) {k : Nat} (hk : k < M.xs.length) : v.sb.getD k ⟨0, 0, 0, 0, 0, 0, []⟩ = (sg M.xs k).s := by
  rw [← h, List.getD_eq_getElem?_getD, List.getElem?_eq_getElem (by simpa [svs] using hk), Option.getD_some, sg_svs hk]
end Go.Proofs.YtffpecdjfcgadaaGreatDoor
namespace Go.Proofs.YtffpecdjfcgadaaGreatDoor
open Go.RowKit Pl Il

/-- What Join answers: the line, and the code. -/
def joinL (xs : List Int) (x : Int) : List Int × Int :=
  if !lineL xs || !clientL x then (xs, 1) else if hasL xs x then (xs, 5) else if 32 ≤ xs.length then (xs, 2) else (xs ++ [x], 0)
/-- What Leave answers: the line, and the code. -/
def leaveL (xs : List Int) (x : Int) : List Int × Int :=
  if !lineL xs then (xs, 1) else if !hasL xs x then (xs, 3) else (lessL xs x, 0)
theorem join_bad {xs : List Int} {x : Int} (h : lineL xs = false ∨ clientL x = false) : joinL xs x = (xs, 1) := by rcases h with h | h <;> simp [joinL, h]
theorem join_there {xs : List Int} {x : Int} (h1 : lineL xs = true) (h2 : clientL x = true) (h3 : hasL xs x = true) : joinL xs x = (xs, 5) := by simp [joinL, h1, h2, h3]
theorem join_full {xs : List Int} {x : Int} (h1 : lineL xs = true) (h2 : clientL x = true) (h3 : hasL xs x = false) (h4 : 32 ≤ xs.length) : joinL xs x = (xs, 2) := by simp [joinL, h1, h2, h3, h4]
theorem join_done {xs : List Int} {x : Int} (h1 : lineL xs = true) (h2 : clientL x = true) (h3 : hasL xs x = false) (h4 : ¬ 32 ≤ xs.length) : joinL xs x = (xs ++ [x], 0) := by simp only [joinL, h1, h2, h3, h4, Bool.not_true, Bool.or_self, if_false, Bool.false_eq_true]
theorem leave_bad {xs : List Int} {x : Int} (h : lineL xs = false) : leaveL xs x = (xs, 1) := by simp [leaveL, h]
theorem leave_none {xs : List Int} {x : Int} (h : lineL xs = true) (h2 : hasL xs x = false) : leaveL xs x = (xs, 3) := by simp [leaveL, h, h2]
theorem leave_done {xs : List Int} {x : Int} (h : lineL xs = true) (h2 : hasL xs x = true) : leaveL xs x = (lessL xs x, 0) := by simp [leaveL, h, h2]


end Go.Proofs.YtffpecdjfcgadaaGreatDoor
namespace Go.Proofs.YtffpecdjfcgadaaGreatDoor
open Go.RowKit Pl Il

/-- How many Wake wakes. -/
def wakeN (xs : List Int) (n : Int) : Nat := if n > (xs.length : Int) then xs.length else n.toNat
theorem wakeN_le (xs : List Int) (n : Int) (h : 0 ≤ n) : wakeN xs n ≤ xs.length := by
  unfold wakeN
  split <;> omega
theorem wakeN_over {xs : List Int} {n : Int} (h : n > (xs.length : Int)) : wakeN xs n = xs.length := by simp [wakeN, h]
theorem wakeN_in {xs : List Int} {n : Int} (h : ¬ n > (xs.length : Int)) : wakeN xs n = n.toNat := by simp only [wakeN, h, if_false]


theorem line_len {xs : List Int} (h : lineL xs = true) : xs.length ≤ 32 := by
  unfold lineL at h
  simp at h
  exact h.1

/-- Two lists that the call has made, apart from one another. -/
structure Both (w : World) (g1 m1 c1 : Nat) (xs : List Int) (g2 m2 c2 : Nat) (ys : List Int) (w' : World) : Prop where
  one : Owns w.heap.size w' g1 m1 c1 xs
  two : Owns w.heap.size w' g2 m2 c2 ys
  apart : g1 ≠ g2
  below : Below w.heap.size w w'
theorem both_of {w w1 w2 w3 : World} {g1 m1 c1 : Nat} {xs : List Int} {g2 m2 c2 : Nat} {ys : List Int} (h1 : Below w.heap.size w w1) (o1 : Owns w1.heap.size w2 g1 m1 c1 xs) (h2 : Below w1.heap.size w1 w2) (o2 : Owns w2.heap.size w3 g2 m2 c2 ys) (h3 : Below w2.heap.size w2 w3) :
    Both w g1 m1 c1 xs g2 m2 c2 ys w3 where
  one := owns_keep (owns_mono o1 h1.size) h3
  two := owns_mono o2 (Nat.le_trans h1.size h2.size)
  apart := by
    have a := (owns_parts o1).2.2.1
    have b := (owns_parts o2).2.1
    omega
  below := bl_trans (bl_trans h1 h2) h3




end Go.Proofs.YtffpecdjfcgadaaGreatDoor
namespace Go.Proofs.YtffpecdjfcgadaaGreatDoor
open Go.RowKit Pl Il

/-- The first place of x in xs, unless it has gone. -/
def placeG (xs gone : List Int) (x : Int) : Option Nat := if gone.contains x then none else xs.findIdx? (· == x)
/-- How many different ones stand in xs. -/
def dist (xs : List Int) : Nat := ((List.range xs.length).filter fun i => !hasL (xs.take i) (xs.getD i 0)).length
/-- Who stands still, of the first k. -/
def standTo (xs gone : List Int) (k : Nat) : List Int := ((List.range k).filter fun i => placeG xs gone (xs.getD i 0) == some i).map fun i => xs.getD i 0
theorem place_isSome (xs : List Int) (x : Int) : (placeG xs [] x).isSome = hasL xs x := by
  simp only [placeG, List.contains_nil, Bool.false_eq_true, if_false, hasL]
  rw [List.findIdx?_isSome]
  rw [Bool.eq_iff_iff]
  simp only [List.any_eq_true, beq_iff_eq, List.contains_eq_mem, decide_eq_true_eq]
  exact ⟨fun ⟨y, hy, e⟩ => e ▸ hy, fun h => ⟨x, h, rfl⟩⟩
theorem place_placeL (xs : List Int) (x : Int) : placeL xs x = match placeG xs [] x with | some i => (i : Int) | none => -1 := by
  simp only [placeL, placeG, List.contains_nil, Bool.false_eq_true, if_false]
  cases xs.findIdx? (· == x) <;> rfl

/-- What the map of places reads as. -/
structure Reads (D : DataW Unit) (xs gone : List Int) : Prop where
  has : ∀ x, Maps.has D (.int .i64 x) = (placeG xs gone x).isSome
  val : ∀ x i, placeG xs gone x = some i → D.atKey (.int .i64 x) (.lit (.int .i64 0)) = .lit (.int .i64 (i : Int))
  size : gone = [] → Maps.size D = dist xs
theorem Reads.empty : Reads (.map []) [] [] := ⟨fun x => by simp [Maps.has, placeG], fun x i h => by simp [placeG] at h, fun _ => rfl⟩

theorem lit_ne {x y : Int} (h : ¬ x = y) : Lit.int .i64 x ≠ Lit.int .i64 y := fun e => h (by injection e)

theorem dist_snoc (xs : List Int) (x : Int) : dist (xs ++ [x]) = dist xs + if hasL xs x then 0 else 1 := by
  unfold dist
  rw [List.length_append, List.length_singleton, List.range_succ, List.filter_append, List.length_append]
  congr 1
  · refine congrArg List.length (List.filter_congr fun i hi => ?_)
    have hi := List.mem_range.1 hi
    rw [List.take_append_of_le_length (Nat.le_of_lt hi)]
    simp [List.getD, List.getElem?_append_left hi]
  · have e : (xs ++ [x]).getD xs.length 0 = x := by simp [List.getD]
    have e2 : (xs ++ [x]).take xs.length = xs := by simp
    rw [List.filter_cons, List.filter_nil, e, e2]
    cases hasL xs x <;> simp
theorem dist_le (xs : List Int) : dist xs ≤ xs.length := by
  unfold dist
  exact Nat.le_trans (List.length_filter_le _ _) (by simp)

theorem Reads.join_new {D : DataW Unit} {xs : List Int} {x : Int} (h : Reads D xs []) (ht : Maps.Tidy D) (hx : hasL xs x = false) : Reads (D.put (.int .i64 x) (.lit (.int .i64 (xs.length : Int)))) (xs ++ [x]) [] := by
  have key : ∀ y, ¬ y = x → placeG (xs ++ [x]) [] y = placeG xs [] y := fun y hy => by
    simp only [placeG, List.contains_nil, Bool.false_eq_true, if_false]
    rw [List.findIdx?_append]
    have : [x].findIdx? (· == y) = none := by
      rw [List.findIdx?_eq_none_iff]
      intro z hz
      rw [List.mem_singleton] at hz
      subst hz
      simp only [beq_eq_false_iff_ne, ne_eq]
      exact fun e => hy e.symm
    simp [this]
  have self : placeG (xs ++ [x]) [] x = some xs.length := by
    have h0 : placeG xs [] x = none := by
      have := place_isSome xs x
      rw [hx] at this
      simpa using this
    simp only [placeG, List.contains_nil, Bool.false_eq_true, if_false] at h0 ⊢
    rw [List.findIdx?_append, h0]
    simp [List.findIdx?_cons]
  refine ⟨fun y => ?_, fun y i hi => ?_, fun _ => ?_⟩
  · by_cases e : y = x
    · subst e
      rw [Maps.has_put_same (k := .int .i64 y) ht.isMap trivial, self]; rfl
    · rw [Maps.has_put_other (lit_ne e), key y e]; exact h.has y
  · by_cases e : y = x
    · subst e
      rw [self] at hi
      injection hi with hi
      subst hi
      rw [Maps.atKey_put_same (k := .int .i64 y) ht.isMap trivial]
    · rw [Maps.atKey_put_other (lit_ne e)]
      rw [key y e] at hi
      exact h.val y i hi
  · rw [Maps.size_put ht, h.has x, place_isSome, hx, dist_snoc, hx, h.size rfl]
    simp
theorem Reads.join_old {D : DataW Unit} {xs : List Int} {x : Int} (h : Reads D xs []) (hx : hasL xs x = true) : Reads D (xs ++ [x]) [] := by
  have key : ∀ y, placeG (xs ++ [x]) [] y = placeG xs [] y := fun y => by
    by_cases e : y = x
    · subst e
      have := place_isSome xs y
      rw [hx] at this
      obtain ⟨i, hi⟩ := Option.isSome_iff_exists.1 this
      rw [hi]
      simp only [placeG, List.contains_nil, Bool.false_eq_true, if_false] at hi ⊢
      rw [List.findIdx?_append, hi]; rfl
    · simp only [placeG, List.contains_nil, Bool.false_eq_true, if_false]
      rw [List.findIdx?_append]
      have : [x].findIdx? (· == y) = none := by
        rw [List.findIdx?_eq_none_iff]
        intro z hz
        rw [List.mem_singleton] at hz
        subst hz
        simp only [beq_eq_false_iff_ne, ne_eq]
        exact fun e' => e e'.symm
      simp [this]
  refine ⟨fun y => ?_, fun y i hi => ?_, fun _ => ?_⟩
  · rw [key]; exact h.has y
  · rw [key] at hi; exact h.val y i hi
  · rw [dist_snoc, hx, h.size rfl]; simp
theorem place_gone (xs gone : List Int) (x y : Int) : placeG xs (gone ++ [x]) y = if y = x then none else placeG xs gone y := by
  unfold placeG
  by_cases e : y = x
  · subst e; simp
  · simp [e]
theorem Reads.leave {D : DataW Unit} {xs gone : List Int} {x : Int} (h : Reads D xs gone) : Reads (D.del (.int .i64 x)) xs (gone ++ [x]) := by
  refine ⟨fun y => ?_, fun y i hi => ?_, fun e => by simp at e⟩
  · rw [place_gone]
    by_cases e : y = x
    · subst e
      rw [Maps.has_del_same]; simp
    · rw [Maps.has_del_other (lit_ne e), h.has]; simp [e]
  · rw [place_gone] at hi
    by_cases e : y = x
    · subst e; simp at hi
    · rw [Maps.atKey_del_other (lit_ne e)]
      simp [e] at hi
      exact h.val y i hi

theorem stand_yes {xs gone : List Int} {k : Nat} {y : Int} (hy : xs.getD k 0 = y) (h : placeG xs gone y = some k) : standTo xs gone (k + 1) = standTo xs gone k ++ [y] := by
  unfold standTo
  rw [List.range_succ, List.filter_append, List.map_append]
  congr 1
  rw [List.filter_cons, hy, h]
  simp [List.getD] at hy
  simp [List.getD, hy]
theorem stand_no {xs gone : List Int} {k : Nat} {y : Int} (hy : xs.getD k 0 = y) (h : ¬ placeG xs gone y = some k) : standTo xs gone (k + 1) = standTo xs gone k := by
  unfold standTo
  rw [List.range_succ, List.filter_append, List.map_append]
  have : (placeG xs gone (xs.getD k 0) == some k) = false := by
    rw [hy, beq_eq_false_iff_ne]; exact h
  rw [List.filter_cons, this]
  simp
theorem stand_len (xs gone : List Int) (k : Nat) : (standTo xs gone k).length ≤ k := by
  unfold standTo
  rw [List.length_map]
  exact Nat.le_trans (List.length_filter_le _ _) (by simp)

theorem nodup_line {xs : List Int} (h : lineL xs = true) : xs.Nodup := by
  simp only [lineL, lineTo, Bool.and_eq_true, List.all_eq_true, List.mem_range] at h
  rw [List.nodup_iff_pairwise_ne, List.pairwise_iff_getElem]
  intro i j hi hj hij e
  have := (h.2 j hj).2
  have e2 : xs.getD j 0 = xs[j] := by simp [List.getD, List.getElem?_eq_getElem hj]
  rw [e2] at this
  have hm : xs[j] ∈ xs.take j := by
    rw [List.mem_take_iff_getElem]
    exact ⟨i, by omega, e⟩
  simp [hasL, hm] at this
theorem find_nodup {xs : List Int} (h : xs.Nodup) {i : Nat} (hi : i < xs.length) : xs.findIdx? (· == xs[i]) = some i := by
  rw [List.findIdx?_eq_some_iff_getElem]
  refine ⟨hi, by simp, fun j hj => ?_⟩
  intro e
  have e : xs[j]'(by omega) = xs[i] := by simpa using e
  rw [List.nodup_iff_pairwise_ne, List.pairwise_iff_getElem] at h
  exact h j i (by omega) hi hj e
theorem map_range (xs : List Int) : (List.range xs.length).map (fun i => xs.getD i 0) = xs := by
  apply List.ext_getElem
  · simp
  · intro i h1 h2
    simp [List.getD, List.getElem?_eq_getElem h2]
theorem stand_all {xs : List Int} (h : xs.Nodup) (gone : List Int) : standTo xs gone xs.length = xs.filter fun y => !gone.contains y := by
  have e : (List.range xs.length).filter (fun i => placeG xs gone (xs.getD i 0) == some i) = (List.range xs.length).filter ((fun y => !gone.contains y) ∘ fun i => xs.getD i 0) := by
    refine List.filter_congr fun i hi => ?_
    have hi := List.mem_range.1 hi
    have e : xs.getD i 0 = xs[i] := by simp [List.getD, List.getElem?_eq_getElem hi]
    simp only [Function.comp, e, placeG, find_nodup h hi]
    cases gone.contains xs[i] <;> simp
  unfold standTo
  rw [e, ← List.filter_map, map_range]
theorem stand_full {xs : List Int} (h : xs.Nodup) : standTo xs [] xs.length = xs := by
  rw [stand_all h]; simp
theorem stand_less {xs : List Int} (h : xs.Nodup) (x : Int) : standTo xs [x] xs.length = lessL xs x := by
  rw [stand_all h, lessL, h.erase_eq_filter]
  refine List.filter_congr fun y _ => ?_
  by_cases e : y = x <;> simp [e]
theorem stand_rest {xs : List Int} (h : xs.Nodup) (k : Nat) : standTo xs (xs.take k) xs.length = xs.drop k := by
  rw [stand_all h]
  have e : xs.filter (fun y => !(xs.take k).contains y) = (xs.take k ++ xs.drop k).filter (fun y => !(xs.take k).contains y) := by rw [List.take_append_drop]
  rw [e, List.filter_append, List.filter_eq_nil_iff.2 (fun y hy => by simp [hy]), List.nil_append, List.filter_eq_self.2 (fun y hy => ?_)]
  have h2 : (xs.take k ++ xs.drop k).Nodup := by rw [List.take_append_drop]; exact h
  have := (List.nodup_append.1 h2).2.2
  simp only [List.contains_eq_mem, Bool.not_eq_true', decide_eq_false_iff_not]
  exact fun hm => this y hm y hy rfl
theorem nodup_snoc {xs : List Int} (h : xs.Nodup) {x : Int} (hx : hasL xs x = false) : (xs ++ [x]).Nodup := by
  rw [List.nodup_append]
  refine ⟨h, by simp, fun a ha b hb e => ?_⟩
  rw [List.mem_singleton] at hb
  subst hb
  subst e
  simp [hasL, ha] at hx

theorem filter_len_eq {α : Type} {p : α → Bool} : ∀ {l : List α}, (l.filter p).length = l.length → ∀ x ∈ l, p x = true
  | [], _, x, hx => by cases hx
  | y :: r, h, x, hx => by
    cases hy : p y
    · rw [List.filter_cons, hy] at h
      have := List.length_filter_le p r
      simp at h
      omega
    · rw [List.filter_cons, hy] at h
      rcases List.mem_cons.1 hx with rfl | hx
      · exact hy
      · exact filter_len_eq (l := r) (by simpa using h) x hx
/-- All are clients: the line is right just if all are different. -/
theorem line_dist {xs : List Int} (h32 : xs.length ≤ 32) (hc : ∀ i, i < xs.length → clientL (xs.getD i 0) = true) : lineL xs = decide (dist xs = xs.length) := by
  rw [Bool.eq_iff_iff]
  simp only [lineL, h32, decide_true, Bool.true_and, decide_eq_true_eq]
  constructor
  · intro h
    simp only [lineTo, List.all_eq_true, List.mem_range, Bool.and_eq_true] at h
    unfold dist
    rw [List.filter_eq_self.2 (fun i hi => (h i (List.mem_range.1 hi)).2)]
    simp
  · intro h
    unfold dist at h
    have := filter_len_eq (l := List.range xs.length) (by rw [h]; simp)
    simp only [lineTo, List.all_eq_true, List.mem_range, Bool.and_eq_true]
    exact fun i hi => ⟨hc i hi, this i (List.mem_range.2 hi)⟩
end Go.Proofs.YtffpecdjfcgadaaGreatDoor
