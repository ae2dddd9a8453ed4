/-
  The plain mathematics of reading: who reads, what it is told, what goe
-/
import Derived.Test.YtdboaoejlkkoeaaGreatZPo20
namespace Go.Proofs.YtdboaoejlkkoeaaGreat
open Go.RowKit Go.Maps Pl Il
theorem box6 {N : Nat} {a0 a1 a2 a3 a4 a5 : Value} {w : World} (h : BoxL N [a0, a1, a2, a3, a4, a5] w) : w.cell? ⟨N, 0, none⟩ = some a0 ∧ w.cell? ⟨N, 1, none⟩ = some a1 ∧ w.cell? ⟨N, 2, none⟩ = some a2 ∧ w.cell? ⟨N, 3, none⟩ = some a3 ∧ w.cell? ⟨N, 4, none⟩ = some a4 ∧ w.cell? ⟨N, 5, none⟩ = some a5 := ⟨h.cs 0 (by simp), h.cs 1 (by simp), h.cs 2 (by simp), h.cs 3 (by simp), h.cs 4 (by simp), h.cs 5 (by simp)⟩
theorem box8 {N : Nat} {a0 a1 a2 a3 a4 a5 a6 a7 : Value} {w : World} (h : BoxL N [a0, a1, a2, a3, a4, a5, a6, a7] w) : w.cell? ⟨N, 0, none⟩ = some a0 ∧ w.cell? ⟨N, 1, none⟩ = some a1 ∧ w.cell? ⟨N, 2, none⟩ = some a2 ∧ w.cell? ⟨N, 3, none⟩ = some a3 ∧ w.cell? ⟨N, 4, none⟩ = some a4 ∧ w.cell? ⟨N, 5, none⟩ = some a5 ∧ w.cell? ⟨N, 6, none⟩ = some a6 ∧ w.cell? ⟨N, 7, none⟩ = some a7 := ⟨h.cs 0 (by simp), h.cs 1 (by simp), h.cs 2 (by simp), h.cs 3 (by simp), h.cs 4 (by simp), h.cs 5 (by simp), h.cs 6 (by simp), h.cs 7 (by simp)⟩
def pasR (fl : List Tm) (m : Tm) : Bool := passP fl (bdOf m.1 m.2.1 m.2.2)
structure Td where
  kd : Int
  ms : Tm
  ix : Int
  n : Int
def Td0 : Td := ⟨0, (0, 0, noT), 0, 0⟩
abbrev tdC (t : Td) : List Value := [.int .i64 t.kd, .int .i64 t.ms.1, .int .i64 t.ms.2.1, .string t.ms.2.2, .int .i64 t.ix, .int .i64 t.n]
def skipN (fl : List Tm) : List Tm → Nat
  | [] => 0
  | m :: ms => if pasR fl m = true then 0 else skipN fl ms + 1
theorem skip_at {fl : List Tm} : ∀ {ms : List Tm} {j : Nat}, j ≤ ms.length → (∀ i, i < j → pasR fl (qg ms i) = false) → (j = ms.length ∨ pasR fl (qg ms j) = true) → skipN fl ms = j
  | [], j, hj, _, _ => by have : j = 0 := by simpa using hj
                          subst this; rfl
  | m :: ms, 0, _, _, he => by
    unfold skipN
    rcases he with he | he
    · cases he
    · rw [if_pos (by simpa [qg] using he)]
  | m :: ms, j + 1, hj, hn, he => by
    unfold skipN
    have h0 := hn 0 (by omega)
    rw [if_neg (by have : pasR fl m = false := by simpa [qg] using h0
                   rw [this]; simp)]
    rw [skip_at (ms := ms) (j := j) (by simpa using hj) (fun i hi => by have := hn (i + 1) (by omega); simpa [qg] using this) (by
      rcases he with he | he
      · exact .inl (by simpa using he)
      · exact .inr (by simpa [qg] using he))]
def goneN (v : Rv) (s : Sb) : Int := v.se - v.cp - s.cu
def tailR (v : Rv) (s : Sb) : List Tm := v.it.drop (s.cu - (v.se - v.it.length)).toNat
def lostS (s : Sb) (n : Int) : Sb := { s with cu := s.cu + n, lo := s.lo + n }
def passS (s : Sb) (n : Int) : Sb := { s with cu := s.cu + n, pa := s.pa + n }
def gotS (s : Sb) (n : Int) : Sb := { s with cu := s.cu + n + 1, gt := s.gt + 1, pa := s.pa + n }
def readS (v : Rv) (s : Sb) : Sb := if 0 < goneN v s then lostS s (goneN v s) else if skipN s.fl (tailR v s) < (tailR v s).length then gotS s (skipN s.fl (tailR v s)) else passS s (skipN s.fl (tailR v s))
def readT (v : Rv) (s : Sb) : Td := if 0 < goneN v s then ⟨2, (0, 0, noT), 0, goneN v s⟩ else if skipN s.fl (tailR v s) < (tailR v s).length then ⟨1, qg (tailR v s) (skipN s.fl (tailR v s)), s.cu + skipN s.fl (tailR v s), 0⟩ else Td0
def readC (v : Rv) (s : Sb) : Int := if 0 < goneN v s then 0 else if skipN s.fl (tailR v s) < (tailR v s).length then 0 else if v.cl = true then 6 else 4
def rdV (v : Rv) (k : Nat) : Rv := { v with sb := v.sb.set k (readS v (v.sb.getD k Sb0)) }
structure RdOk (v : Rv) (k : Nat) : Prop where
  cp : 1 ≤ v.cp ∧ v.cp ≤ 16
  se : 0 ≤ v.se ∧ v.se ≤ 1000000000
  it : v.it.length ≤ 16
  ol : (v.it.length : Int) = v.se - oldR v
  ms : ∀ m, m ∈ v.it → okB m.1 m.2.1 m.2.2 = true
  lt : k < v.sb.length
  nm : 0 ≤ (v.sb.getD k Sb0).st ∧ (v.sb.getD k Sb0).st ≤ (v.sb.getD k Sb0).cu ∧ (v.sb.getD k Sb0).cu ≤ v.se ∧ 0 ≤ (v.sb.getD k Sb0).gt ∧ 0 ≤ (v.sb.getD k Sb0).lo ∧ 0 ≤ (v.sb.getD k Sb0).pa ∧ (v.sb.getD k Sb0).gt + (v.sb.getD k Sb0).lo + (v.sb.getD k Sb0).pa = (v.sb.getD k Sb0).cu - (v.sb.getD k Sb0).st
  fl : okF (v.sb.getD k Sb0).fl = true
theorem ok_msgs {v : Rv} (h : okR restR v = true) : ∀ m, m ∈ v.it → okB m.1 m.2.1 m.2.2 = true := by
  simp only [okR, restR, msgsR, Bool.and_eq_true, List.all_eq_true] at h
  exact h.2.2.2.1
theorem ok_rd {v : Rv} (h : okR restR v = true) {k : Nat} (hk : k < v.sb.length) : RdOk v k := by
  have h1 := ok_sub h hk
  obtain ⟨hcp, hse, _, h16, hlen, _⟩ := ok_head h
  simp only [subR, subHead, subSums, Bool.and_eq_true, decide_eq_true_eq] at h1
  exact ⟨hcp, hse, h16, hlen, ok_msgs h, hk, by omega, h1.2.2⟩
theorem old_le_cu {v : Rv} {k : Nat} (h : RdOk v k) (hg : ¬ 0 < goneN v (v.sb.getD k Sb0)) : oldR v ≤ (v.sb.getD k Sb0).cu := by
  have hgk : v.sb.getD k Sb0 ∈ v.sb := by
    rw [List.getD, List.getElem?_eq_getElem h.lt, Option.getD_some]; exact List.getElem_mem _
  have hl := ((least_iff v.sb v.se (leastR v.se v.sb)).1 (Int.le_refl _)).2 _ hgk
  have hn := h.nm
  unfold goneN at hg
  unfold oldR
  simp only
  split <;> split <;> omega
theorem tail_len {v : Rv} {k : Nat} (h : RdOk v k) (hg : ¬ 0 < goneN v (v.sb.getD k Sb0)) : ((tailR v (v.sb.getD k Sb0)).length : Int) = v.se - (v.sb.getD k Sb0).cu := by
  have h1 := old_le_cu h hg
  have h2 := h.ol
  have h3 := h.nm
  unfold tailR
  rw [List.length_drop]
  omega
theorem tail_at {v : Rv} {k : Nat} (_h : RdOk v k) (_hg : ¬ 0 < goneN v (v.sb.getD k Sb0)) {j : Nat} : qg (tailR v (v.sb.getD k Sb0)) j = qg v.it (((v.sb.getD k Sb0).cu - (v.se - v.it.length)).toNat + j) := by
  unfold tailR qg
  simp only [List.getD_eq_getElem?_getD, List.getElem?_drop]
theorem skip_le (fl : List Tm) : ∀ ms : List Tm, skipN fl ms ≤ ms.length
  | [] => Nat.le_refl _
  | m :: ms => by
    unfold skipN
    split
    · exact Nat.zero_le _
    · have := skip_le fl ms
      simp only [List.length_cons]; omega
theorem read_nm0 {v : Rv} {s : Sb} (hcp : 1 ≤ v.cp) (hn : 0 ≤ s.st ∧ s.st ≤ s.cu ∧ s.cu ≤ v.se ∧ 0 ≤ s.gt ∧ 0 ≤ s.lo ∧ 0 ≤ s.pa ∧ s.gt + s.lo + s.pa = s.cu - s.st) (htl : ¬ 0 < goneN v s → ((tailR v s).length : Int) = v.se - s.cu) : s.cu ≤ (readS v s).cu ∧ (readS v s).st = s.st ∧ (readS v s).id = s.id ∧ (readS v s).fl = s.fl ∧ (readS v s).cu ≤ v.se ∧ 0 ≤ (readS v s).gt ∧ 0 ≤ (readS v s).lo ∧ 0 ≤ (readS v s).pa ∧ (readS v s).gt + (readS v s).lo + (readS v s).pa = (readS v s).cu - (readS v s).st := by
  by_cases hg : 0 < goneN v s
  · have e : readS v s = lostS s (goneN v s) := if_pos hg
    rw [e]
    unfold goneN at hg
    have h1 : (lostS s (goneN v s)).cu = v.se - v.cp := by unfold lostS goneN; simp only; omega
    have h2 : (lostS s (goneN v s)).lo = s.lo + (v.se - v.cp - s.cu) := rfl
    have h3 : (lostS s (goneN v s)).st = s.st ∧ (lostS s (goneN v s)).gt = s.gt ∧ (lostS s (goneN v s)).pa = s.pa := ⟨rfl, rfl, rfl⟩
    refine ⟨by omega, rfl, rfl, rfl, by omega, by omega, by omega, by omega, by omega⟩
  · have ht := htl hg
    have hs := skip_le s.fl (tailR v s)
    obtain ⟨q, hq⟩ : ∃ q, skipN s.fl (tailR v s) = q := ⟨_, rfl⟩
    by_cases hl : skipN s.fl (tailR v s) < (tailR v s).length
    · have e : readS v s = gotS s (skipN s.fl (tailR v s)) := by unfold readS; rw [if_neg hg, if_pos hl]
      rw [e]
      rw [hq] at hs hl ⊢
      have h1 : (gotS s q).cu = s.cu + q + 1 ∧ (gotS s q).gt = s.gt + 1 ∧ (gotS s q).pa = s.pa + q ∧ (gotS s q).lo = s.lo ∧ (gotS s q).st = s.st := ⟨rfl, rfl, rfl, rfl, rfl⟩
      refine ⟨by omega, rfl, rfl, rfl, by omega, by omega, by omega, by omega, by omega⟩
    · have e : readS v s = passS s (skipN s.fl (tailR v s)) := by unfold readS; rw [if_neg hg, if_neg hl]
      rw [e]
      rw [hq] at hs hl ⊢
      have h1 : (passS s q).cu = s.cu + q ∧ (passS s q).gt = s.gt ∧ (passS s q).pa = s.pa + q ∧ (passS s q).lo = s.lo ∧ (passS s q).st = s.st := ⟨rfl, rfl, rfl, rfl, rfl⟩
      refine ⟨by omega, rfl, rfl, rfl, by omega, by omega, by omega, by omega, by omega⟩
theorem read_nm {v : Rv} {k : Nat} (h : RdOk v k) : (v.sb.getD k Sb0).cu ≤ (readS v (v.sb.getD k Sb0)).cu ∧ (readS v (v.sb.getD k Sb0)).st = (v.sb.getD k Sb0).st ∧ (readS v (v.sb.getD k Sb0)).id = (v.sb.getD k Sb0).id ∧ (readS v (v.sb.getD k Sb0)).fl = (v.sb.getD k Sb0).fl ∧ (readS v (v.sb.getD k Sb0)).cu ≤ v.se ∧ 0 ≤ (readS v (v.sb.getD k Sb0)).gt ∧ 0 ≤ (readS v (v.sb.getD k Sb0)).lo ∧ 0 ≤ (readS v (v.sb.getD k Sb0)).pa ∧ (readS v (v.sb.getD k Sb0)).gt + (readS v (v.sb.getD k Sb0)).lo + (readS v (v.sb.getD k Sb0)).pa = (readS v (v.sb.getD k Sb0)).cu - (readS v (v.sb.getD k Sb0)).st :=
  read_nm0 h.cp.1 h.nm fun hg => tail_len h hg
theorem read_lost {v : Rv} {s : Sb} {gn : Int} (h : v.se - v.cp - s.cu = gn) (hp : 0 < gn) : readS v s = lostS s gn ∧ readT v s = ⟨2, (0, 0, noT), 0, gn⟩ ∧ readC v s = 0 := by
  have hg : 0 < goneN v s := by unfold goneN; rw [h]; exact hp
  have e : goneN v s = gn := h
  unfold readS readT readC
  rw [if_pos hg, if_pos hg, if_pos hg, e]
  exact ⟨rfl, rfl, rfl⟩
theorem read_got {v : Rv} {s : Sb} {j : Nat} (hg : ¬ 0 < goneN v s) (hj : j < (tailR v s).length) (hn : ∀ i, i < j → pasR s.fl (qg (tailR v s) i) = false) (hp : pasR s.fl (qg (tailR v s) j) = true) : readS v s = gotS s j ∧ readT v s = ⟨1, qg (tailR v s) j, s.cu + j, 0⟩ ∧ readC v s = 0 := by
  have e := skip_at (Nat.le_of_lt hj) hn (.inr hp)
  unfold readS readT readC
  rw [if_neg hg, if_neg hg, if_neg hg, e, if_pos hj, if_pos hj, if_pos hj]
  exact ⟨rfl, rfl, rfl⟩
theorem read_none {v : Rv} {s : Sb} {j : Nat} (hg : ¬ 0 < goneN v s) (hj : j = (tailR v s).length) (hn : ∀ i, i < j → pasR s.fl (qg (tailR v s) i) = false) : readS v s = passS s j ∧ readT v s = Td0 ∧ readC v s = if v.cl = true then 6 else 4 := by
  have e := skip_at (Nat.le_of_eq hj) hn (.inl hj)
  unfold readS readT readC
  rw [if_neg hg, if_neg hg, if_neg hg, e, if_neg (by omega), if_neg (by omega), if_neg (by omega)]
  exact ⟨rfl, rfl, rfl⟩
theorem pass_zero (s : Sb) : passS s ((0 : Nat) : Int) = s := by
  unfold passS
  simp
theorem set_getD {sb : List Sb} {k : Nat} {s : Sb} (hk : k < sb.length) : (sb.set k s).getD k Sb0 = s := by
  rw [List.getD, List.getElem?_set, if_pos rfl, if_pos hk, Option.getD_some]
theorem putV_set {sb : List Sb} {k r : Nat} {s : Sb} {z : Int} (hk : k < sb.length) : putV (sb.set k s) k r z = sb.set k (subPut s r z) := by
  unfold putV
  rw [show (⟨0, 0, 0, 0, 0, 0, []⟩ : Sb) = Sb0 from rfl, set_getD hk, List.set_set]
theorem rd_old {v : Rv} {k : Nat} (h : RdOk v k) : oldR v ≤ oldR (rdV v k) := by
  refine old_mono rfl rfl ?_
  rw [least_iff]
  have hgk : v.sb.getD k Sb0 ∈ v.sb := by
    rw [List.getD, List.getElem?_eq_getElem h.lt, Option.getD_some]; exact List.getElem_mem _
  have hl := (least_iff v.sb v.se (leastR v.se v.sb)).1 (Int.le_refl _)
  refine ⟨hl.1, fun s hs => ?_⟩
  rcases List.mem_or_eq_of_mem_set hs with h' | h'
  · exact hl.2 s h'
  · have h1 := hl.2 _ hgk
    have h2 := (read_nm h).1
    rw [h']
    exact Int.le_trans h1 h2
theorem rd_first {v : Rv} {k : Nat} (h : RdOk v k) {f : Nat} (hf : v.se = ((f + v.it.length : Nat) : Int)) : ∃ d : Nat, d ≤ v.it.length ∧ oldR (rdV v k) = ((f + d : Nat) : Int) ∧ trimR (rdV v k) = { rdV v k with it := v.it.drop d } := by
  have hcp := h.cp
  have hse := h.se
  have hlen := h.ol
  have h1 := rd_old h
  have h2 := oldR_bd (v := rdV v k) hse.1 hcp.1
  have e1 : (rdV v k).se = v.se := rfl
  have e2 : (rdV v k).it = v.it := rfl
  rw [e1] at h2
  obtain ⟨d, hd⟩ : ∃ d : Nat, oldR (rdV v k) = ((f + d : Nat) : Int) := ⟨(oldR (rdV v k) - f).toNat, by omega⟩
  refine ⟨d, by omega, hd, ?_⟩
  unfold trimR
  rw [e1, e2]
  by_cases h0 : d = 0
  · subst h0
    rw [if_neg (by omega), List.drop_zero]
    rfl
  · rw [if_pos (by omega), show v.it.length - (v.se - oldR (rdV v k)).toNat = d by omega]
    first | done | rfl
theorem rd_again {v : Rv} {k : Nat} (h : RdOk v k) : RdOk (trimR (rdV v k)) k := by
  have hf : v.se = (((oldR v).toNat + v.it.length : Nat) : Int) := by
    have := oldR_bd (v := v) h.se.1 h.cp.1
    have := h.ol
    omega
  obtain ⟨d, hd, ho, ht⟩ := rd_first h hf
  have hr := read_nm h
  have hg : (trimR (rdV v k)).sb.getD k Sb0 = readS v (v.sb.getD k Sb0) := by rw [ht]; exact set_getD h.lt
  have hob := oldR_bd (v := v) h.se.1 h.cp.1
  have hol := h.ol
  have hold : oldR (trimR (rdV v k)) = oldR (rdV v k) := by rw [ht]; rfl
  have hn := h.nm
  refine ⟨by rw [ht]; exact h.cp, by rw [ht]; exact h.se, ?_, ?_, ?_, ?_, ?_, ?_⟩
  · rw [ht]; show (v.it.drop d).length ≤ 16; have := h.it; rw [List.length_drop]; omega
  · rw [hold, ho, ht]; show ((v.it.drop d).length : Int) = v.se - _; rw [List.length_drop]; omega
  · intro m hm; rw [ht] at hm; exact h.ms m (List.mem_of_mem_drop hm)
  · rw [ht]; show k < (v.sb.set k _).length; rw [List.length_set]; exact h.lt
  · rw [hg, ht]
    obtain ⟨h1, h2, h3, h4, h5, h6, h7, h8, h9⟩ := hr
    exact ⟨by rw [h2]; exact hn.1, by rw [h2]; omega, h5, h6, h7, h8, h9⟩
  · rw [hg, hr.2.2.2.1]; exact h.fl
def waitV (v : Rv) (k : Nat) (id : Int) : Rv := if readC v (v.sb.getD k Sb0) = 4 then { rdV v k with ln := v.ln ++ [id] } else rdV v k
def RgDS (w : World) (v : Rv) (t : Td) (c : Int) (e : Ending) (w' : World) : Prop := ∃ M : Rm, e = .returned (.tuple #[.agg #[.int .i64 v.cp, .int .i64 v.se, .slice M.ia M.i M.ic, .int .i64 v.nx, .slice M.sa M.s M.sc, .slice M.la M.l M.lc, .slice M.ga M.g M.gc, .bool v.cl], .agg #[.int .i64 t.kd, .int .i64 t.ms.1, .int .i64 t.ms.2.1, .string t.ms.2.2, .int .i64 t.ix, .int .i64 t.n], .int .i64 c]) ∧ RRow w.heap.size w' M v ∧ RLe M 2097152 ∧ Below w.heap.size w w'
def recG (v : Rv) (id : Int) : Rv := if okR restR v = true then (if atR v.sb id < 0 then v else if (hasL v.ln id || hasL v.gs id) = true then v else trimR (waitV v (atR v.sb id).toNat id)) else v
def recT (v : Rv) (id : Int) : Td := if okR restR v = true then (if atR v.sb id < 0 then Td0 else if (hasL v.ln id || hasL v.gs id) = true then Td0 else readT v (v.sb.getD (atR v.sb id).toNat Sb0)) else Td0
def recC (v : Rv) (id : Int) : Int := if okR restR v = true then (if atR v.sb id < 0 then 3 else if (hasL v.ln id || hasL v.gs id) = true then 5 else readC v (v.sb.getD (atR v.sb id).toNat Sb0)) else 1
def RecDoneS (F : Nat) : Prop := ∀ (M : Rm) (v : Rv) (id : Int) (w : World), RIn w M v → RLe M 1048576 → RCap M → RWf v → (Lit.int .i64 id).wf = true → GOk w →
  Calls Tryz.prog F #[.agg #[.int .i64 v.cp, .int .i64 v.se, .slice M.ia M.i M.ic, .int .i64 v.nx, .slice M.sa M.s M.sc, .slice M.la M.l M.lc, .slice M.ga M.g M.gc, .bool v.cl], .int .i64 id] w fun e w' => RgDS w (recG v id) (recT v id) (recC v id) e w'
def proG (v : Rv) (id : Int) : Rv := if okR restR v = true then (if hasL v.ln id = true then v else if hasL v.gs id = true then trimR (waitV { v with gs := lessL v.gs id } (atR v.sb id).toNat id) else v) else v
def proT (v : Rv) (id : Int) : Td := if okR restR v = true then (if hasL v.ln id = true then Td0 else if hasL v.gs id = true then readT v (v.sb.getD (atR v.sb id).toNat Sb0) else Td0) else Td0
def proC (v : Rv) (id : Int) : Int := if okR restR v = true then (if hasL v.ln id = true then 4 else if hasL v.gs id = true then readC v (v.sb.getD (atR v.sb id).toNat Sb0) else 3) else 1
def ProDoneS (F : Nat) : Prop := ∀ (M : Rm) (v : Rv) (id : Int) (w : World), RIn w M v → RLe M 1048576 → RCap M → RWf v → (Lit.int .i64 id).wf = true → GOk w →
  Calls Tryz.prog F #[.agg #[.int .i64 v.cp, .int .i64 v.se, .slice M.ia M.i M.ic, .int .i64 v.nx, .slice M.sa M.s M.sc, .slice M.la M.l M.lc, .slice M.ga M.g M.gc, .bool v.cl], .int .i64 id] w fun e w' => RgDS w (proG v id) (proT v id) (proC v id) e w'
end Go.Proofs.YtdboaoejlkkoeaaGreat
