/-
  The plain mathematics of a right ring: subscribing, leaving, reading, 
  Pulling: what several readings tell, one behind the other; lists of wh
  The plain mathematics of pulling in two parts
  The plain mathematics of sending: who is told, who stays, what goes
-/
import Derived.Test.YtdboaoejlkkoeaaGreatZPo21
namespace Go.Proofs.YtdboaoejlkkoeaaGreat
open Go.RowKit Go.Maps Pl Il
theorem SubP.mono {se nx se' nx' : Int} {s : Sb} (h : SubP se nx s) (hs : se ≤ se') (hn : nx ≤ nx') : SubP se' nx' s :=
  ⟨h.i0, Int.lt_of_lt_of_le h.i1 hn, h.st, h.sc, Int.le_trans h.cu hs, h.gt, h.lo, h.pa, h.su, h.fl⟩
theorem ok_shut {v : Rv} (h : okR restR v = true) : okR restR (shutR v) = true := by
  rw [okR_iff] at h ⊢
  obtain ⟨h, hl⟩ := h
  have hp : (([] : List Int) ++ (v.gs ++ v.ln)).Perm (v.ln ++ v.gs) := by simpa using List.perm_append_comm
  exact ⟨⟨h.cp, h.se, h.nx, h.few, h.sub, h.inc, h.ms, hp.nodup_iff.2 h.nod, fun y hy => h.mem y (hp.mem_iff.1 hy), fun s hs hm => (by cases hm), fun _ => rfl⟩, hl⟩
theorem ok_clo {v : Rv} (h : okR restR v = true) : okR restR (cloR v) = true := by
  unfold cloR
  rw [if_pos h]
  split
  · exact h
  · exact ok_shut h
theorem erase_sub (ln gs : List Int) (id : Int) : (lessL ln id ++ lessL gs id).Sublist (ln ++ gs) := List.Sublist.append List.erase_sublist List.erase_sublist
theorem ok_lessG {v : Rv} (h : okR restR v = true) (id : Int) : okR restR { v with gs := lessL v.gs id } = true := by
  rw [okR_iff] at h ⊢
  obtain ⟨h, hl⟩ := h
  have hs : (v.ln ++ lessL v.gs id).Sublist (v.ln ++ v.gs) := List.Sublist.append (List.Sublist.refl _) List.erase_sublist
  exact ⟨⟨h.cp, h.se, h.nx, h.few, h.sub, h.inc, h.ms, hs.nodup h.nod, fun y hy => h.mem y (hs.subset hy), h.att, h.clo⟩, hl⟩
theorem old_ge_least (v : Rv) : leastR v.se v.sb ≤ oldR v := by
  unfold oldR
  simp only
  split <;> split <;> omega
theorem ok_sbsV {v : Rv} {f : List Tm} (back : Bool) (h : okR restR v = true) (hf : okF f = true) (h12 : v.sb.length < 12) (hn : v.nx < 1000000000) : okR restR (sbsV v f back) = true := by
  rw [okR_iff] at h ⊢
  obtain ⟨h, hl⟩ := h
  have hob := oldR_bd (v := v) h.se.1 h.cp.1
  have hfr : leastR v.se v.sb ≤ fromR v back ∧ 0 ≤ fromR v back ∧ fromR v back ≤ v.se := by
    unfold fromR
    cases back
    · exact ⟨leastR_le _ _, h.se.1, Int.le_refl _⟩
    · exact ⟨old_ge_least v, hob⟩
  have hlt : ∀ s, s ∈ v.sb → s.id < v.nx := fun s hs => (h.sub s hs).i1
  have hold : oldR (sbsV v f back) = oldR v := by
    have e : leastR v.se (v.sb ++ [newS v (fromR v back) f]) = leastR v.se v.sb := by
      rw [leastR_snoc, if_neg]
      show ¬ fromR v back < _
      omega
    unfold oldR sbsV
    simp only [e]
  rw [hold]
  refine ⟨⟨h.cp, h.se, ⟨?_, ?_⟩, ?_, fun s hs => ?_, ?_, h.ms, h.nod, fun y hy => ?_, fun s hs hm => ?_, h.clo⟩, hl⟩
  · have := h.nx.1; show 0 ≤ v.nx + 1; omega
  · show v.nx + 1 ≤ _; omega
  · show (v.sb ++ [_]).length ≤ 12; rw [List.length_append, List.length_singleton]; omega
  · rcases List.mem_append.1 hs with hs | hs
    · exact (h.sub s hs).mono (Int.le_refl _) (by show v.nx ≤ v.nx + 1; omega)
    · obtain rfl : s = newS v (fromR v back) f := by simpa using hs
      exact ⟨h.nx.1, by show v.nx < v.nx + 1; omega, hfr.2.1, Int.le_refl _, hfr.2.2, Int.le_refl _, Int.le_refl _, Int.le_refl _, by show (0 : Int) + 0 + 0 = fromR v back - fromR v back; omega, hf⟩
  · show ((v.sb ++ [newS v (fromR v back) f]).map (·.id)).Pairwise (· < ·)
    rw [List.map_append, List.pairwise_append]
    refine ⟨h.inc, by simp, fun a ha b hb => ?_⟩
    obtain ⟨s, hs, rfl⟩ := List.mem_map.1 ha
    obtain rfl : b = v.nx := by simpa [newS] using hb
    exact hlt s hs
  · show y ∈ (v.sb ++ [newS v (fromR v back) f]).map (·.id)
    rw [List.map_append]
    exact List.mem_append.2 (.inl (h.mem y hy))
  · rcases List.mem_append.1 hs with hs | hs
    · exact h.att s hs hm
    · obtain rfl : s = newS v (fromR v back) f := by simpa using hs
      obtain ⟨t, ht, e⟩ := List.mem_map.1 (h.mem _ (List.mem_append.2 (.inl hm)))
      have h1 := hlt t ht
      rw [e] at h1
      exact absurd h1 (Int.lt_irrefl _)
theorem ok_sbs {v : Rv} (f : List Tm) (back : Bool) (h : okR restR v = true) : okR restR (sbsR v f back) = true := by
  unfold sbsR
  split
  · rename_i hc
    unfold sbsC at hc
    split at hc
    · rename_i h1
      split at hc
      · omega
      · split at hc
        · omega
        · rename_i h3
          exact ok_sbsV back h h1.2 (by omega) (by omega)
    · omega
  · exact h
theorem ok_drop {v : Rv} (h : okR restR v = true) {k : Nat} (hk : k < v.sb.length) : okR restR (trimR (dropV v (v.sb.getD k Sb0).id k)) = true := by
  rw [okR_iff] at h
  obtain ⟨h, hl⟩ := h
  have hs := erase_sub v.ln v.gs (v.sb.getD k Sb0).id
  refine ok_trim ⟨h.cp, h.se, h.nx, ?_, fun s hs => h.sub s (List.mem_of_mem_eraseIdx hs), ?_, h.ms, hs.nodup h.nod, fun y hy => ?_, fun s hs hm => h.att s (List.mem_of_mem_eraseIdx hs) (List.mem_of_mem_erase hm), fun hc => (by show v.ln.erase _ = []; rw [h.clo hc]; rfl)⟩ ?_
  · have h1 := h.few
    show (v.sb.eraseIdx k).length ≤ 12
    rw [List.length_eraseIdx]
    split <;> omega
  · exact List.Pairwise.sublist ((List.eraseIdx_sublist v.sb k).map _) h.inc
  · have hne : y ≠ (v.sb.getD k Sb0).id := by
      have hn := h.nod
      rw [List.nodup_append] at hn
      rintro rfl
      rcases List.mem_append.1 hy with hy | hy
      · exact (List.Nodup.not_mem_erase hn.1) hy
      · exact (List.Nodup.not_mem_erase hn.2.1) hy
    obtain ⟨t, ht, rfl⟩ := List.mem_map.1 (h.mem y (hs.subset hy))
    obtain ⟨j, hj, rfl⟩ := sb_idx ht
    refine List.mem_map.2 ⟨v.sb.getD j Sb0, ?_, rfl⟩
    show _ ∈ v.sb.eraseIdx k
    rw [List.mem_eraseIdx_iff_getElem]
    exact ⟨j, hj, by rintro rfl; exact hne rfl, by rw [get_sb hj]⟩
  · have h1 := drop_old v (v.sb.getD k Sb0).id k
    show v.se - _ ≤ (v.it.length : Int)
    omega
theorem ok_uns {v : Rv} (h : okR restR v = true) (id : Int) : okR restR (unsR v id) = true := by
  unfold unsR
  rw [if_pos h]
  split
  · exact h
  · rename_i h1
    obtain ⟨h2, h3⟩ := at_id2 (show 0 ≤ atR v.sb id by omega)
    have := ok_drop h h2
    rw [h3] at this
    exact this
theorem set_ids {sb : List Sb} {k : Nat} {s : Sb} (hk : k < sb.length) (e : s.id = (sb.getD k Sb0).id) : (sb.set k s).map (·.id) = sb.map (·.id) := by
  rw [List.map_set, e, get_sb hk]
  refine List.ext_getElem (by simp) fun i h1 h2 => ?_
  rw [List.getElem_set]
  split
  · subst_vars; simp
  · rfl
theorem ok_set {v : Rv} (h : okR restR v = true) {k : Nat} (hk : k < v.sb.length) {s : Sb} (hp : SubP v.se v.nx s) (hi : s.id = (v.sb.getD k Sb0).id) (hl : (v.sb.getD k Sb0).id ∉ v.ln) : OkW { v with sb := v.sb.set k s } := by
  rw [okR_iff] at h
  obtain ⟨h, _⟩ := h
  refine ⟨h.cp, h.se, h.nx, by show (v.sb.set k s).length ≤ 12; rw [List.length_set]; exact h.few, fun t ht => ?_, ?_, h.ms, h.nod, fun y hy => ?_, fun t ht hm => ?_, h.clo⟩
  · rcases List.mem_or_eq_of_mem_set ht with h' | h'
    · exact h.sub t h'
    · rw [h']; exact hp
  · show ((v.sb.set k s).map (·.id)).Pairwise (· < ·)
    rw [set_ids hk hi]
    exact h.inc
  · show y ∈ (v.sb.set k s).map (·.id)
    rw [set_ids hk hi]
    exact h.mem y hy
  · rcases List.mem_or_eq_of_mem_set ht with h' | h'
    · exact h.att t h' hm
    · rw [h', hi] at hm
      exact absurd hm hl
theorem read_sub {v : Rv} {k : Nat} (h : okR restR v = true) (hk : k < v.sb.length) : SubP v.se v.nx (readS v (v.sb.getD k Sb0)) := by
  have hr := read_nm (ok_rd h hk)
  obtain ⟨h1, h2, h3, h4, h5, h6, h7, h8, h9⟩ := hr
  rw [okR_iff] at h
  have hs := h.1.sub _ (get_sbm hk)
  have := hs.st
  have := hs.sc
  exact ⟨by rw [h3]; exact hs.i0, by rw [h3]; exact hs.i1, by rw [h2]; exact hs.st, by rw [h2]; omega, h5, h6, h7, h8, h9, by rw [h4]; exact hs.fl⟩
theorem ok_wait {v : Rv} (h : okR restR v = true) {k : Nat} (hk : k < v.sb.length) (hl : (v.sb.getD k Sb0).id ∉ v.ln) (hg : (v.sb.getD k Sb0).id ∉ v.gs) : okR restR (trimR (waitV v k (v.sb.getD k Sb0).id)) = true := by
  have hrd := ok_rd h hk
  have hr := read_nm hrd
  have hp := read_sub h hk
  have hW : OkW (rdV v k) := ok_set h hk hp hr.2.2.1 hl
  have ho := rd_old hrd
  have h' := h
  rw [okR_iff] at h'
  have hlen := h'.2
  unfold waitV
  split
  · rename_i hc
    have hcu : (readS v (v.sb.getD k Sb0)).cu = v.se ∧ ¬ v.cl = true := by
      unfold readC at hc
      split at hc
      · omega
      · rename_i hg0
        split at hc
        · omega
        · rename_i hs
          split at hc
          · omega
          · rename_i hcl
            refine ⟨?_, hcl⟩
            have ht := tail_len hrd hg0
            have hsk := skip_le (v.sb.getD k Sb0).fl (tailR v (v.sb.getD k Sb0))
            unfold readS
            rw [if_neg hg0, if_neg hs]
            show (v.sb.getD k Sb0).cu + _ = v.se
            omega
    refine ok_trim (v := { rdV v k with ln := v.ln ++ [(v.sb.getD k Sb0).id] }) ⟨hW.cp, hW.se, hW.nx, hW.few, hW.sub, hW.inc, hW.ms, ?_, fun y hy => ?_, fun s hs hm => ?_, fun hcl => absurd hcl hcu.2⟩ ?_
    · have hn := hW.nod
      have hperm : ((v.ln ++ [(v.sb.getD k Sb0).id]) ++ v.gs).Perm ((v.sb.getD k Sb0).id :: (v.ln ++ v.gs)) := by
        rw [List.append_assoc]
        exact List.perm_middle
      refine hperm.nodup_iff.2 (List.nodup_cons.2 ⟨fun hm => ?_, hn⟩)
      rcases List.mem_append.1 hm with hm | hm
      · exact hl hm
      · exact hg hm
    · have hy' : y ∈ (v.ln ++ [(v.sb.getD k Sb0).id]) ++ v.gs := hy
      simp only [List.mem_append, List.mem_singleton] at hy'
      rcases hy' with (hy' | hy') | hy'
      · exact hW.mem y (List.mem_append.2 (.inl hy'))
      · rw [hy']
        show _ ∈ (v.sb.set k _).map (·.id)
        rw [set_ids hk hr.2.2.1]
        exact List.mem_map.2 ⟨_, get_sbm hk, rfl⟩
      · exact hW.mem y (List.mem_append.2 (.inr hy'))
    · have hm' : s.id ∈ v.ln ++ [(v.sb.getD k Sb0).id] := hm
      rcases List.mem_append.1 hm' with hm' | hm'
      · exact hW.att s hs hm'
      · have e : s.id = (v.sb.getD k Sb0).id := by simpa using hm'
        have e2 : s = readS v (v.sb.getD k Sb0) := inc_one hW.inc hs (by
          have h1 := get_sbm (sb := v.sb.set k (readS v (v.sb.getD k Sb0))) (k := k) (by rw [List.length_set]; exact hk)
          rw [set_getD hk] at h1
          exact h1) (by rw [e, hr.2.2.1])
        rw [e2]
        exact hcu.1
    · show v.se - oldR (rdV v k) ≤ (v.it.length : Int)
      omega
  · refine ok_trim hW ?_
    show v.se - oldR (rdV v k) ≤ (v.it.length : Int)
    omega
theorem not_has {xs : List Int} {x : Int} (h : ¬ hasL xs x = true) : x ∉ xs := by simpa [hasL] using h
theorem ok_rec {v : Rv} (h : okR restR v = true) (id : Int) : okR restR (recG v id) = true := by
  unfold recG
  rw [if_pos h]
  split
  · exact h
  · rename_i h1
    split
    · exact h
    · rename_i h2
      obtain ⟨h3, h4⟩ := at_id2 (show 0 ≤ atR v.sb id by omega)
      simp only [Bool.or_eq_true, not_or] at h2
      have := ok_wait h h3 (by rw [h4]; exact not_has h2.1) (by rw [h4]; exact not_has h2.2)
      rw [h4] at this
      exact this
theorem ok_pro {v : Rv} (h : okR restR v = true) (id : Int) : okR restR (proG v id) = true := by
  unfold proG
  rw [if_pos h]
  split
  · exact h
  · rename_i h1
    split
    · rename_i h2
      have h' := h
      rw [okR_iff] at h'
      have hm : id ∈ v.gs := by simpa [hasL] using h2
      obtain ⟨h3, h4⟩ := at_id2 (at_mem (h'.1.mem id (List.mem_append.2 (.inr hm))))
      have hn := h'.1.nod
      rw [List.nodup_append] at hn
      have := ok_wait (v := { v with gs := lessL v.gs id }) (ok_lessG h id) h3 (by show (v.sb.getD _ Sb0).id ∉ v.ln; rw [h4]; exact not_has h1) (by show (v.sb.getD _ Sb0).id ∉ v.gs.erase id; rw [h4]; exact List.Nodup.not_mem_erase hn.2.1)
      have e : (v.sb.getD (atR v.sb id).toNat Sb0).id = id := h4
      simp only [e] at this
      exact this
    · exact h
end Go.Proofs.YtdboaoejlkkoeaaGreat
namespace Go.Proofs.YtdboaoejlkkoeaaGreat
open Go.RowKit Pl Il
def pullL : Nat → Rv → Nat → Rv × List Td × Int
  | 0, v, _ => (v, [], 0)
  | n + 1, v, k =>
    if readC v (v.sb.getD k Sb0) = 0 then
      ((pullL n (trimR (rdV v k)) k).1, readT v (v.sb.getD k Sb0) :: (pullL n (trimR (rdV v k)) k).2.1, (pullL n (trimR (rdV v k)) k).2.2)
    else (trimR (rdV v k), [], readC v (v.sb.getD k Sb0))
theorem pullL_succ (n : Nat) (v : Rv) (k : Nat) : pullL (n + 1) v k = if readC v (v.sb.getD k Sb0) = 0 then
      ((pullL n (trimR (rdV v k)) k).1, readT v (v.sb.getD k Sb0) :: (pullL n (trimR (rdV v k)) k).2.1, (pullL n (trimR (rdV v k)) k).2.2)
    else (trimR (rdV v k), [], readC v (v.sb.getD k Sb0)) := rfl
def pulR (v : Rv) (id most : Int) : Rv := if okR restR v = true ∧ 0 ≤ most ∧ most ≤ 50 then (if atR v.sb id < 0 then v else if (hasL v.ln id || hasL v.gs id) = true then v else (pullL most.toNat v (atR v.sb id).toNat).1) else v
def pulT (v : Rv) (id most : Int) : List Td := if okR restR v = true ∧ 0 ≤ most ∧ most ≤ 50 then (if atR v.sb id < 0 then [] else if (hasL v.ln id || hasL v.gs id) = true then [] else (pullL most.toNat v (atR v.sb id).toNat).2.1) else []
def pulC (v : Rv) (id most : Int) : Int := if okR restR v = true ∧ 0 ≤ most ∧ most ≤ 50 then (if atR v.sb id < 0 then 3 else if (hasL v.ln id || hasL v.gs id) = true then 5 else (pullL most.toNat v (atR v.sb id).toNat).2.2) else 1
structure PulI (most : Nat) (v : Rv) (k : Nat) (j : Nat) (u : Rv) (l : List Td) (c : Int) : Prop where
  len : l.length ≤ j ∧ j ≤ most
  go : c = 0 → l.length = j ∧ (pullL most v k).1 = (pullL (most - j) u k).1 ∧ (pullL most v k).2.1 = l ++ (pullL (most - j) u k).2.1 ∧ (pullL most v k).2.2 = (pullL (most - j) u k).2.2
  done : c ≠ 0 → pullL most v k = (u, l, c)
theorem PulI.start (most : Nat) (v : Rv) (k : Nat) : PulI most v k 0 v [] 0 := ⟨⟨Nat.le_refl _, Nat.zero_le _⟩, fun _ => ⟨rfl, rfl, by simp, rfl⟩, fun h => absurd rfl h⟩
theorem PulI.next {most : Nat} {v : Rv} {k j : Nat} {u : Rv} {l : List Td} (h : PulI most v k j u l 0) (hj : j < most) :
    PulI most v k (j + 1) (trimR (rdV u k)) (if readC u (u.sb.getD k Sb0) = 0 then l ++ [readT u (u.sb.getD k Sb0)] else l) (readC u (u.sb.getD k Sb0)) := by
  obtain ⟨h1, h2, h3, h4⟩ := h.go rfl
  have hm : most - j = (most - (j + 1)) + 1 := by omega
  have hl := h.len
  rw [hm, pullL_succ] at h2 h3 h4
  by_cases hc : readC u (u.sb.getD k Sb0) = 0
  · rw [if_pos hc] at h2 h3 h4
    rw [if_pos hc]
    refine ⟨⟨by simp; omega, by omega⟩, fun _ => ⟨by simp; omega, h2, ?_, h4⟩, fun hn => absurd hc hn⟩
    rw [h3]
    simp
  · rw [if_neg hc] at h2 h3 h4
    rw [if_neg hc]
    refine ⟨⟨by omega, by omega⟩, fun hz => absurd hz hc, fun _ => ?_⟩
    exact Prod.ext h2 (Prod.ext (by rw [h3]; simp) h4)
theorem PulI.full {most : Nat} {v : Rv} {k j : Nat} {u : Rv} {l : List Td} {c : Int} (h : PulI most v k j u l c) (he : c ≠ 0 ∨ most ≤ l.length) : pullL most v k = (u, l, c) := by
  by_cases hc : c = 0
  · subst hc
    have hm : most ≤ l.length := by rcases he with he | he; exact absurd rfl he; exact he
    obtain ⟨h1, h2, h3, h4⟩ := h.go rfl
    have e : most - j = 0 := by omega
    rw [e] at h2 h3 h4
    exact Prod.ext h2 (Prod.ext (by rw [h3]; simp [pullL]) h4)
  · exact h.done hc
theorem PulI.rd {most : Nat} {v : Rv} {k j : Nat} {u : Rv} {l : List Td} {c : Int} (_ : PulI most v k j u l c) (hu : RdOk u k) : RdOk (trimR (rdV u k)) k := rd_again hu
def dflat (l : List Td) : List Value := l.flatMap tdC
theorem dflat_len (l : List Td) : (dflat l).length = l.length * 6 := by
  induction l with
  | nil => rfl
  | cons t l ih => simp only [dflat, List.flatMap_cons, List.length_append, List.length_cons] at ih ⊢; rw [ih]; simp; omega
theorem dflat_snoc (l : List Td) (t : Td) : dflat (l ++ [t]) = dflat l ++ tdC t := by simp [dflat]
theorem rinfoT : (Tryz.prog.info? 53).map (fun i => (i.zero, i.size, i.bytes)) = some (some (.agg #[.int .i64 0, .int .i64 0, .int .i64 0, .string ⟨#[]⟩, .int .i64 0, .int .i64 0]), 6, 56) := by kernel_rfl
theorem append_td (B m : Nat) (v : Value) (ys : List Td) (t : Td) (w : World) (ho : w.ownsRow B 53 6 v m (dflat ys)) (hB : B ≤ w.heap.size) (hs : m + 1 ≤ 4194304) :
    ∃ (a' : Option Addr) (c' : Nat) (w' : World), (Builtin.append_ #[48, 48] 48 #[v, .slice (some ⟨w.heap.size, 0, none⟩) 1 1]).run Tryz.prog (w.alloc (.cells #[.int .i64 t.kd, .int .i64 t.ms.1, .int .i64 t.ms.2.1, .string t.ms.2.2, .int .i64 t.ix, .int .i64 t.n] 53)) = .ok (.slice a' (m + 1) c') w' ∧
      w'.ownsRow B 53 6 (.slice a' (m + 1) c') (m + 1) (dflat (ys ++ [t])) ∧ w.grownBy w' v.ownBlock ∧ (∀ q, (Value.slice a' (m + 1) c').ownBlock = some q → v.ownBlock = some q ∨ w.heap.size ≤ q) := by
  obtain ⟨W, hW⟩ : ∃ W, w.alloc (.cells #[.int .i64 t.kd, .int .i64 t.ms.1, .int .i64 t.ms.2.1, .string t.ms.2.2, .int .i64 t.ix, .int .i64 t.n] 53) = W := ⟨_, rfl⟩
  have hx : BoxL w.heap.size (tdC t) W := by rw [← hW]; exact BoxL.new w (tdC t) _
  have hg : w.grownBy W v.ownBlock := by rw [← hW]; exact World.grownBy_alloc w _ _
  have hs2 : w.heap.size ≤ W.heap.size := hg.size
  have ho2 : W.ownsRow B 53 6 v m (dflat ys) := by rw [← hW]; exact ho.alloc _
  obtain ⟨a', c', w', hr, hown, hgr, hl⟩ := append_gen Tryz.underlying48 rinfoT rfl (by omega) (by omega) B m v (dflat ys) (some ⟨w.heap.size, 0, none⟩) 1 1 (tdC t) W ho2 (by omega) rfl
    (.inr ⟨w.heap.size, 0, rfl, fun j u hu => by
      have hj : j < 6 := by have := (List.getElem?_eq_some_iff.1 hu).1; simpa using this
      obtain ⟨p0, p1, p2, p3, p4, p5⟩ := box6 hx
      match j, hj with
      | 0, _ => simp at hu; subst hu; exact p0
      | 1, _ => simp at hu; subst hu; exact p1
      | 2, _ => simp at hu; subst hu; exact p2
      | 3, _ => simp at hu; subst hu; exact p3
      | 4, _ => simp at hu; subst hu; exact p4
      | 5, _ => simp at hu; subst hu; exact p5⟩)
    (fun u hu => by
      simp only [List.mem_cons, List.not_mem_nil, or_false] at hu
      obtain rfl | rfl | rfl | rfl | rfl | rfl := hu <;> rfl) hs
  refine ⟨a', c', w', by rw [hW]; exact hr, by rw [dflat_snoc]; exact hown, hg.trans hgr, fun q hq => ?_⟩
  rcases hl q hq with h | h
  · exact .inl h
  · exact .inr (by omega)
end Go.Proofs.YtdboaoejlkkoeaaGreat
namespace Go.Proofs.YtdboaoejlkkoeaaGreat
open Go.RowKit Go.Maps Pl Il
theorem ok_rd1 {v : Rv} (h : okR restR v = true) {k : Nat} (hk : k < v.sb.length) (hl : (v.sb.getD k Sb0).id ∉ v.ln) : okR restR (trimR (rdV v k)) = true := by
  have hrd := ok_rd h hk
  have hr := read_nm hrd
  have hp := read_sub h hk
  have hW : OkW (rdV v k) := ok_set h hk hp hr.2.2.1 hl
  have ho := rd_old hrd
  have h' := h
  rw [okR_iff] at h'
  have hlen := h'.2
  refine ok_trim hW ?_
  show v.se - oldR (rdV v k) ≤ (v.it.length : Int)
  omega
theorem trim_parts (v : Rv) : (trimR v).sb = v.sb ∧ (trimR v).ln = v.ln ∧ (trimR v).gs = v.gs ∧ (trimR v).cp = v.cp ∧ (trimR v).se = v.se ∧ (trimR v).cl = v.cl ∧ (trimR v).nx = v.nx := by
  unfold trimR
  split <;> exact ⟨rfl, rfl, rfl, rfl, rfl, rfl, rfl⟩
structure SameB (v u : Rv) (k : Nat) : Prop where
  ln : u.ln = v.ln
  gs : u.gs = v.gs
  len : u.sb.length = v.sb.length
  ids : u.sb.map (·.id) = v.sb.map (·.id)
  id : (u.sb.getD k Sb0).id = (v.sb.getD k Sb0).id
  fl : (u.sb.getD k Sb0).fl = (v.sb.getD k Sb0).fl
theorem SameB.refl (v : Rv) (k : Nat) : SameB v v k := ⟨rfl, rfl, rfl, rfl, rfl, rfl⟩
theorem SameB.trans {v u t : Rv} {k : Nat} (h : SameB v u k) (g : SameB u t k) : SameB v t k := ⟨g.ln.trans h.ln, g.gs.trans h.gs, g.len.trans h.len, g.ids.trans h.ids, g.id.trans h.id, g.fl.trans h.fl⟩
theorem same_rd {v : Rv} {k : Nat} (h : RdOk v k) : SameB v (trimR (rdV v k)) k ∧ ((trimR (rdV v k)).sb.getD k Sb0) = readS v (v.sb.getD k Sb0) := by
  obtain ⟨h1, h2, h3, _⟩ := trim_parts (rdV v k)
  have hr := read_nm h
  have e : (trimR (rdV v k)).sb = v.sb.set k (readS v (v.sb.getD k Sb0)) := h1
  have e2 : (v.sb.set k (readS v (v.sb.getD k Sb0))).getD k Sb0 = readS v (v.sb.getD k Sb0) := set_getD h.lt
  refine ⟨⟨h2, h3, by rw [e, List.length_set], by rw [e, set_ids h.lt hr.2.2.1], by rw [e, e2, hr.2.2.1], by rw [e, e2, hr.2.2.2.1]⟩, by rw [e, e2]⟩
theorem pullL_ok : ∀ (n : Nat) (v : Rv) (k : Nat), okR restR v = true → k < v.sb.length → (v.sb.getD k Sb0).id ∉ v.ln → okR restR (pullL n v k).1 = true ∧ SameB v (pullL n v k).1 k
  | 0, v, k, h, _, _ => ⟨h, SameB.refl _ _⟩
  | n + 1, v, k, h, hk, hl => by
    have h1 := ok_rd1 h hk hl
    have hs := (same_rd (ok_rd h hk)).1
    rw [pullL_succ]
    split
    · have ih := pullL_ok n (trimR (rdV v k)) k h1 (by rw [hs.len]; exact hk) (by rw [hs.id, hs.ln]; exact hl)
      exact ⟨ih.1, hs.trans ih.2⟩
    · exact ⟨h1, hs⟩
theorem rd_end {v : Rv} {k : Nat} (h : okR restR v = true) (hk : k < v.sb.length) (hl : (v.sb.getD k Sb0).id ∉ v.ln) (hc : readC v (v.sb.getD k Sb0) ≠ 0) :
    readC (trimR (rdV v k)) ((trimR (rdV v k)).sb.getD k Sb0) ≠ 0 ∧ trimR (rdV (trimR (rdV v k)) k) = trimR (rdV v k) := by
  have h1 := ok_rd1 h hk hl
  obtain ⟨hs, hg⟩ := same_rd (ok_rd h hk)
  have hrd := ok_rd h hk
  have hse : (readS v (v.sb.getD k Sb0)).cu = v.se := by
    unfold readC at hc
    split at hc
    · omega
    · rename_i hg0
      split at hc
      · omega
      · rename_i hs
        have ht := tail_len hrd hg0
        have hsk := skip_le (v.sb.getD k Sb0).fl (tailR v (v.sb.getD k Sb0))
        unfold readS
        rw [if_neg hg0, if_neg hs]
        show (v.sb.getD k Sb0).cu + _ = v.se
        omega
  obtain ⟨e1, e2, e3, e4, e5, e6, e7⟩ := trim_parts (rdV v k)
  obtain ⟨u, hu⟩ : ∃ u, trimR (rdV v k) = u := ⟨_, rfl⟩
  rw [hu] at h1 hs hg e1 e4 e5 e6 ⊢
  have hk' : k < u.sb.length := by rw [hs.len]; exact hk
  have hru := ok_rd h1 hk'
  have hse' : (u.sb.getD k Sb0).cu = u.se := by rw [hg, hse, e5]; rfl
  have hng : ¬ 0 < goneN u (u.sb.getD k Sb0) := by unfold goneN; have := hru.cp; omega
  have ht := tail_len hru hng
  have ht0 : (tailR u (u.sb.getD k Sb0)).length = 0 := by omega
  have ht1 : tailR u (u.sb.getD k Sb0) = [] := List.length_eq_zero_iff.1 ht0
  have hR : readS u (u.sb.getD k Sb0) = u.sb.getD k Sb0 := by
    unfold readS
    rw [if_neg hng, ht1, if_neg (by simp)]
    unfold passS skipN
    simp
  refine ⟨?_, ?_⟩
  · unfold readC
    rw [if_neg hng, ht1, if_neg (by simp)]
    split <;> omega
  · have e : rdV u k = u := by
      unfold rdV
      rw [hR, get_sb hk', List.set_getElem_self hk']
    rw [e]
    have hl2 := ((okR_iff u).1 h1).2
    unfold trimR
    rw [if_neg (by omega)]
theorem pullL_split : ∀ (a b : Nat) (v : Rv) (k : Nat), okR restR v = true → k < v.sb.length → (v.sb.getD k Sb0).id ∉ v.ln →
    (pullL (a + b) v k).1 = (pullL b (pullL a v k).1 k).1 ∧ (pullL (a + b) v k).2.1 = (pullL a v k).2.1 ++ (pullL b (pullL a v k).1 k).2.1
  | 0, b, v, k, _, _, _ => by rw [Nat.zero_add]; exact ⟨rfl, rfl⟩
  | a + 1, b, v, k, h, hk, hl => by
    have h1 := ok_rd1 h hk hl
    have hs := (same_rd (ok_rd h hk)).1
    rw [show a + 1 + b = (a + b) + 1 by omega, pullL_succ, pullL_succ]
    by_cases hc : readC v (v.sb.getD k Sb0) = 0
    · rw [if_pos hc, if_pos hc]
      obtain ⟨i1, i2⟩ := pullL_split a b (trimR (rdV v k)) k h1 (by rw [hs.len]; exact hk) (by rw [hs.id, hs.ln]; exact hl)
      exact ⟨i1, by simp only [List.cons_append]; rw [i2]⟩
    · rw [if_neg hc, if_neg hc]
      obtain ⟨g1, g2⟩ := rd_end h hk hl hc
      cases b with
      | zero => exact ⟨rfl, rfl⟩
      | succ b =>
        simp only
        rw [pullL_succ, if_neg g1, g2]
        exact ⟨rfl, rfl⟩
def riseT (fl : List Tm) : Int → List Td → Prop
  | _, [] => True
  | a, t :: ts => if t.kd = 1 then (a < t.ix ∧ pasR fl t.ms = true ∧ okB t.ms.1 t.ms.2.1 t.ms.2.2 = true ∧ riseT fl t.ix ts) else riseT fl a ts
theorem skip_pas (fl : List Tm) : ∀ ms : List Tm, skipN fl ms < ms.length → pasR fl (qg ms (skipN fl ms)) = true
  | [], h => by simp [skipN] at h
  | m :: ms, h => by
    unfold skipN at h ⊢
    split
    · rename_i hm; simpa [qg] using hm
    · rename_i hm
      rw [if_neg hm] at h
      have := skip_pas fl ms (by simpa using h)
      simpa [qg] using this
theorem pullL_rise : ∀ (n : Nat) (v : Rv) (k : Nat) (a : Int), RdOk v k → a < (v.sb.getD k Sb0).cu → riseT (v.sb.getD k Sb0).fl a (pullL n v k).2.1
  | 0, v, k, a, _, _ => trivial
  | n + 1, v, k, a, h, ha => by
    obtain ⟨hs, hg⟩ := same_rd h
    have hn := rd_again h
    rw [pullL_succ]
    split
    · rename_i hc
      show riseT _ a (_ :: _)
      unfold riseT
      have hnm := read_nm h
      split
      · rename_i hk1
        by_cases hg0 : 0 < goneN v (v.sb.getD k Sb0)
        · exfalso; unfold readT at hk1; rw [if_pos hg0] at hk1; simp at hk1
        · by_cases hsl : skipN (v.sb.getD k Sb0).fl (tailR v (v.sb.getD k Sb0)) < (tailR v (v.sb.getD k Sb0)).length
          · have eT : readT v (v.sb.getD k Sb0) = ⟨1, qg (tailR v (v.sb.getD k Sb0)) (skipN (v.sb.getD k Sb0).fl (tailR v (v.sb.getD k Sb0))), (v.sb.getD k Sb0).cu + skipN (v.sb.getD k Sb0).fl (tailR v (v.sb.getD k Sb0)), 0⟩ := by unfold readT; rw [if_neg hg0, if_pos hsl]
            have eS : (readS v (v.sb.getD k Sb0)).cu = (v.sb.getD k Sb0).cu + skipN (v.sb.getD k Sb0).fl (tailR v (v.sb.getD k Sb0)) + 1 := by unfold readS; rw [if_neg hg0, if_pos hsl]; rfl
            refine ⟨by rw [eT]; show a < _ + _; omega, by rw [eT]; exact skip_pas _ _ hsl, by rw [eT]; exact h.ms _ (List.mem_of_mem_drop (qg_mem hsl)), ?_⟩
            have ih := pullL_rise n (trimR (rdV v k)) k (readT v (v.sb.getD k Sb0)).ix hn (by rw [hg, eS, eT]; show _ + _ < _; omega)
            rw [hs.fl] at ih
            exact ih
          · exfalso; unfold readT at hk1; rw [if_neg hg0, if_neg hsl] at hk1; simp [Td0] at hk1
      · have ih := pullL_rise n (trimR (rdV v k)) k a hn (by rw [hg]; omega)
        rw [hs.fl] at ih
        exact ih
    · trivial
open Go.RowKit Go.Maps Pl Il
def flAt (sb : List Sb) (id : Int) : List Tm := (sb.getD (atR sb id).toNat Sb0).fl
def bump (sb : List Sb) (k : Nat) : List Sb := sb.set k (passS (sb.getD k Sb0) 1)
theorem bump_len (sb : List Sb) (k : Nat) : (bump sb k).length = sb.length := by simp [bump]
theorem bump_get (sb : List Sb) (k j : Nat) (hj : j < sb.length) : (bump sb k).getD j Sb0 = if k = j then passS (sb.getD j Sb0) 1 else sb.getD j Sb0 := by
  unfold bump
  rw [List.getD_eq_getElem?_getD, List.getElem?_set]
  by_cases h : k = j
  · subst h
    rw [if_pos rfl, if_pos hj, if_pos rfl]
    rfl
  · rw [if_neg h, if_neg h, ← List.getD_eq_getElem?_getD]
theorem bump_ids (sb : List Sb) (k : Nat) : (bump sb k).map (·.id) = sb.map (·.id) := by
  refine List.ext_getElem (by simp [bump]) fun i h1 h2 => ?_
  have hi : i < sb.length := by simpa using h2
  simp only [bump, List.getElem_map, List.getElem_set]
  split
  · rename_i h
    subst h
    rw [List.getD, List.getElem?_eq_getElem hi, Option.getD_some]
    rfl
  · rfl
theorem atR_ids {sb sb' : List Sb} (h : sb'.map (·.id) = sb.map (·.id)) (id : Int) : atR sb' id = atR sb id := by
  have key : ∀ l : List Sb, l.findIdx? (fun s => s.id == id) = (l.map (·.id)).findIdx? (fun x => x == id) := fun l => by
    rw [List.findIdx?_map]
    rfl
  unfold atR
  rw [key, key, h]
def sndT (sb : List Sb) (m : Tm) (l : List Int) : List Int := l.filter fun id => pasR (flAt sb id) m
def sndS (sb : List Sb) (m : Tm) (l : List Int) : List Int := l.filter fun id => !pasR (flAt sb id) m
def sndB (sb : List Sb) (m : Tm) (l : List Int) : List Sb := l.foldl (fun s id => if pasR (flAt sb id) m = true then s else bump s (atR sb id).toNat) sb
theorem sndT_snoc (sb : List Sb) (m : Tm) (l : List Int) (id : Int) : sndT sb m (l ++ [id]) = if pasR (flAt sb id) m = true then sndT sb m l ++ [id] else sndT sb m l := by
  unfold sndT
  rw [List.filter_append]
  by_cases h : pasR (flAt sb id) m = true
  · rw [if_pos h]; simp [h]
  · rw [if_neg h]; simp [h]
theorem sndS_snoc (sb : List Sb) (m : Tm) (l : List Int) (id : Int) : sndS sb m (l ++ [id]) = if pasR (flAt sb id) m = true then sndS sb m l else sndS sb m l ++ [id] := by
  unfold sndS
  rw [List.filter_append]
  by_cases h : pasR (flAt sb id) m = true
  · rw [if_pos h]; simp [h]
  · rw [if_neg h]; simp [h]
theorem sndB_snoc (sb : List Sb) (m : Tm) (l : List Int) (id : Int) : sndB sb m (l ++ [id]) = if pasR (flAt sb id) m = true then sndB sb m l else bump (sndB sb m l) (atR sb id).toNat := by
  unfold sndB
  rw [List.foldl_append]
  rfl
theorem sndB_len (sb : List Sb) (m : Tm) : ∀ l : List Int, (sndB sb m l).length = sb.length := by
  suffices h : ∀ (l : List Int) (s : List Sb), (l.foldl (fun s id => if pasR (flAt sb id) m = true then s else bump s (atR sb id).toNat) s).length = s.length from fun l => h l sb
  intro l
  induction l with
  | nil => intro s; rfl
  | cons id l ih =>
    intro s
    rw [List.foldl_cons, ih]
    split
    · rfl
    · exact bump_len _ _
theorem sndB_ids (sb : List Sb) (m : Tm) : ∀ l : List Int, (sndB sb m l).map (·.id) = sb.map (·.id) := by
  suffices h : ∀ (l : List Int) (s : List Sb), (l.foldl (fun s id => if pasR (flAt sb id) m = true then s else bump s (atR sb id).toNat) s).map (·.id) = s.map (·.id) from fun l => h l sb
  intro l
  induction l with
  | nil => intro s; rfl
  | cons id l ih =>
    intro s
    rw [List.foldl_cons, ih]
    split
    · rfl
    · exact bump_ids _ _
theorem sndB_cu (sb : List Sb) (m : Tm) (x : Int) (h : ∀ s, s ∈ sb → x ≤ s.cu) : ∀ l : List Int, ∀ s, s ∈ sndB sb m l → x ≤ s.cu := by
  suffices h' : ∀ (l : List Int) (t : List Sb), (∀ s, s ∈ t → x ≤ s.cu) → 0 ≤ (1 : Int) → (∀ id, id ∈ l → (atR sb id).toNat < t.length ∨ pasR (flAt sb id) m = true ∨ True) → ∀ s, s ∈ l.foldl (fun s id => if pasR (flAt sb id) m = true then s else bump s (atR sb id).toNat) t → x ≤ s.cu from fun l => h' l sb h (by omega) (fun _ _ => .inr (.inr trivial))
  intro l
  induction l with
  | nil => intro t ht _ _; exact ht
  | cons id l ih =>
    intro t ht h1 _
    rw [List.foldl_cons]
    refine ih _ ?_ h1 (fun _ _ => .inr (.inr trivial))
    split
    · exact ht
    · intro s hs
      by_cases hk : (atR sb id).toNat < t.length
      · rcases List.mem_or_eq_of_mem_set hs with h2 | h2
        · exact ht s h2
        · have h3 : t.getD (atR sb id).toNat Sb0 ∈ t := by
            rw [List.getD, List.getElem?_eq_getElem hk, Option.getD_some]; exact List.getElem_mem _
          have h4 := ht _ h3
          rw [h2]
          show x ≤ (t.getD (atR sb id).toNat Sb0).cu + 1
          omega
      · unfold bump at hs
        rw [List.set_eq_of_length_le (by omega)] at hs
        exact ht s hs
def sndV (v : Rv) (m : Tm) : Rv := ⟨v.cp, v.se + 1, v.it ++ [m], v.nx, sndB v.sb m v.ln, sndS v.sb m v.ln, v.gs ++ sndT v.sb m v.ln, v.cl⟩
theorem snd_old {v : Rv} {m : Tm} : oldR v ≤ oldR (sndV v m) := by
  have hl := (least_iff v.sb v.se (leastR v.se v.sb)).1 (Int.le_refl _)
  have h1 : leastR v.se v.sb ≤ leastR (v.se + 1) (sndB v.sb m v.ln) := by
    rw [least_iff]
    exact ⟨by omega, sndB_cu v.sb m _ hl.2 v.ln⟩
  unfold oldR
  simp only [sndV]
  repeat' split
  all_goals omega
theorem snd_first {v : Rv} (h : okR restR v = true) {m : Tm} {f : Nat} (hf : v.se = ((f + v.it.length : Nat) : Int)) : ∃ d : Nat, d ≤ v.it.length + 1 ∧ oldR (sndV v m) = ((f + d : Nat) : Int) ∧ trimR (sndV v m) = { sndV v m with it := (v.it ++ [m]).drop d } := by
  obtain ⟨hcp, hse, _, h16, hlen, _⟩ := ok_head h
  have h1 := snd_old (v := v) (m := m)
  have h2 := oldR_bd (v := sndV v m) (by show 0 ≤ v.se + 1; omega) hcp.1
  have e1 : (sndV v m).se = v.se + 1 := rfl
  have e2 : (sndV v m).it = v.it ++ [m] := rfl
  have e3 : (v.it ++ [m]).length = v.it.length + 1 := by simp
  rw [e1] at h2
  obtain ⟨d, hd⟩ : ∃ d : Nat, oldR (sndV v m) = ((f + d : Nat) : Int) := ⟨(oldR (sndV v m) - f).toNat, by omega⟩
  refine ⟨d, by omega, hd, ?_⟩
  unfold trimR
  rw [e1, e2, e3]
  by_cases h0 : d = 0
  · subst h0
    rw [if_neg (by omega), List.drop_zero]
    rfl
  · rw [if_pos (by omega), show v.it.length + 1 - (v.se + 1 - oldR (sndV v m)).toNat = d by omega]
    first | done | rfl
def snR (v : Rv) (m : Tm) : Rv := if okR restR v = true then (if v.cl = true then v else if okB m.1 m.2.1 m.2.2 = true then (if v.se = 1000000000 then v else trimR (sndV v m)) else v) else v
def snT (v : Rv) (m : Tm) : List Int := if okR restR v = true then (if v.cl = true then [] else if okB m.1 m.2.1 m.2.2 = true then (if v.se = 1000000000 then [] else sndT v.sb m v.ln) else []) else []
def snC (v : Rv) (m : Tm) : Int := if okR restR v = true then (if v.cl = true then 6 else if okB m.1 m.2.1 m.2.2 = true then (if v.se = 1000000000 then 2 else 0) else 1) else 1
def SendDoneS (F : Nat) : Prop := ∀ (M : Rm) (v : Rv) (m : Tm) (w : World), RIn w M v → RLe M 1048576 → RCap M → RWf v → m.2.2.size ≤ maxLen → GOk w →
  Calls Tryz.prog F #[.agg #[.int .i64 v.cp, .int .i64 v.se, .slice M.ia M.i M.ic, .int .i64 v.nx, .slice M.sa M.s M.sc, .slice M.la M.l M.lc, .slice M.ga M.g M.gc, .bool v.cl], .agg #[.int .i64 m.1, .int .i64 m.2.1, .string m.2.2]] w fun e w' => RgTS w (snR v m) (snT v m) (snC v m) e w'
open Go.RowKit Go.Maps Pl Il
theorem fl_at {sb : List Sb} (hi : (sb.map (·.id)).Pairwise (· < ·)) {j : Nat} (hj : j < sb.length) : flAt sb (sb.getD j Sb0).id = (sb.getD j Sb0).fl := by
  unfold flAt
  rw [at_of hi hj, Int.toNat_natCast]
theorem snd_get {sb : List Sb} (hi : (sb.map (·.id)).Pairwise (· < ·)) (m : Tm) : ∀ (l : List Int) (t : List Sb), t.length = sb.length → l.Nodup → (∀ y, y ∈ l → y ∈ sb.map (·.id)) → ∀ j, j < sb.length →
    (l.foldl (fun s id => if pasR (flAt sb id) m = true then s else bump s (atR sb id).toNat) t).getD j Sb0 = if (sb.getD j Sb0).id ∈ l ∧ pasR (sb.getD j Sb0).fl m = false then passS (t.getD j Sb0) 1 else t.getD j Sb0
  | [], t, _, _, _, j, _ => by rw [if_neg (by simp)]; rfl
  | id :: l, t, ht, hn, hm, j, hj => by
    rw [List.nodup_cons] at hn
    rw [List.foldl_cons]
    obtain ⟨h3, h4⟩ := at_id2 (at_mem (hm id (List.mem_cons_self ..)))
    have hfl : flAt sb id = (sb.getD (atR sb id).toNat Sb0).fl := rfl
    have hl' : (if pasR (flAt sb id) m = true then t else bump t (atR sb id).toNat).length = sb.length := by
      split
      · exact ht
      · rw [bump_len, ht]
    rw [snd_get hi m l _ hl' hn.2 (fun y hy => hm y (List.mem_cons_of_mem _ hy)) j hj]
    by_cases e : (sb.getD j Sb0).id = id
    · have ej : (atR sb id).toNat = j := inc_eq hi h3 hj (by rw [h4, e])
      rw [if_neg (show ¬ ((sb.getD j Sb0).id ∈ l ∧ _) from fun hh => hn.1 (by rw [← e]; exact hh.1)), hfl, ej]
      cases hp : pasR (sb.getD j Sb0).fl m
      · rw [if_neg (by simp), if_pos ⟨by rw [e]; exact List.mem_cons_self .., rfl⟩, bump_get _ _ _ (by omega), if_pos rfl]
      · rw [if_pos rfl, if_neg (by simp)]
    · have ne : ¬ (atR sb id).toNat = j := fun k => e (by rw [← k]; exact h4)
      have hb : (if pasR (flAt sb id) m = true then t else bump t (atR sb id).toNat).getD j Sb0 = t.getD j Sb0 := by
        split
        · rfl
        · rw [bump_get _ _ _ (by omega), if_neg ne]
      rw [hb]
      have hiff : ((sb.getD j Sb0).id ∈ l ∧ pasR (sb.getD j Sb0).fl m = false) ↔ ((sb.getD j Sb0).id ∈ id :: l ∧ pasR (sb.getD j Sb0).fl m = false) := by
        rw [List.mem_cons]
        exact ⟨fun h => ⟨.inr h.1, h.2⟩, fun h => ⟨h.1.resolve_left e, h.2⟩⟩
      by_cases hh : (sb.getD j Sb0).id ∈ l ∧ pasR (sb.getD j Sb0).fl m = false
      · rw [if_pos hh, if_pos (hiff.1 hh)]
      · rw [if_neg hh, if_neg (fun k => hh (hiff.2 k))]
theorem ok_sndV {v : Rv} {m : Tm} (h : okR restR v = true) (hc : ¬ v.cl = true) (hm : okB m.1 m.2.1 m.2.2 = true) (hs : ¬ v.se = 1000000000) : okR restR (trimR (sndV v m)) = true := by
 rw [okR_iff] at h
 obtain ⟨h, hl⟩ := h
 have ho := snd_old (v := v) (m := m)
 have hnl : v.ln.Nodup := by have := h.nod; rw [List.nodup_append] at this; exact this.1
 have hml : ∀ y, y ∈ v.ln → y ∈ v.sb.map (·.id) := fun y hy => h.mem y (List.mem_append.2 (.inl hy))
 have hlen : (sndB v.sb m v.ln).length = v.sb.length := sndB_len _ _ _
 have hget : ∀ j, j < v.sb.length → (sndB v.sb m v.ln).getD j Sb0 = if (v.sb.getD j Sb0).id ∈ v.ln ∧ pasR (v.sb.getD j Sb0).fl m = false then passS (v.sb.getD j Sb0) 1 else v.sb.getD j Sb0 := fun j hj => snd_get h.inc m v.ln v.sb rfl hnl hml j hj
 have hids : (sndB v.sb m v.ln).map (·.id) = v.sb.map (·.id) := sndB_ids _ _ _
 have hperm : (sndS v.sb m v.ln ++ (v.gs ++ sndT v.sb m v.ln)).Perm (v.ln ++ v.gs) := by
  have h1 : (sndT v.sb m v.ln ++ sndS v.sb m v.ln).Perm v.ln := List.filter_append_perm _ _
  have h2 : (sndS v.sb m v.ln ++ (v.gs ++ sndT v.sb m v.ln)).Perm ((sndT v.sb m v.ln ++ sndS v.sb m v.ln) ++ v.gs) := by
   rw [← List.append_assoc]
   refine (List.perm_append_comm).trans ?_
   rw [List.append_assoc]
  exact h2.trans (h1.append_right _)
 refine ok_trim ⟨h.cp, ⟨?_, ?_⟩, h.nx, by show (sndB _ _ _).length ≤ 12; rw [hlen]; exact h.few, fun s hs' => ?_, by show ((sndB _ _ _).map (·.id)).Pairwise _; rw [hids]; exact h.inc, fun x hx => ?_, hperm.nodup_iff.2 h.nod, fun y hy => ?_, fun s hs' hm' => ?_, fun k => absurd k hc⟩ ?_
 ·have := h.se.1; show 0 ≤ v.se + 1; omega
 ·have := h.se.2; show v.se + 1 ≤ 1000000000; omega
 ·obtain ⟨j, hj, rfl⟩ := sb_idx hs'
  change j < (sndB v.sb m v.ln).length at hj
  rw [hlen] at hj
  have hp := h.sub _ (get_sbm hj)
  show SubP (v.se + 1) v.nx ((sndB v.sb m v.ln).getD j Sb0)
  rw [hget j hj]
  split
  ·rename_i hh
   have hcu := h.att _ (get_sbm hj) hh.1
   have := hp.sc
   have := hp.su
   have := hp.pa
   exact ⟨hp.i0, hp.i1, hp.st, by show (v.sb.getD j Sb0).st ≤ (v.sb.getD j Sb0).cu + 1; omega, by show (v.sb.getD j Sb0).cu + 1 ≤ v.se + 1; omega, hp.gt, hp.lo, by show 0 ≤ (v.sb.getD j Sb0).pa + 1; omega, by show (v.sb.getD j Sb0).gt + (v.sb.getD j Sb0).lo + ((v.sb.getD j Sb0).pa + 1) = (v.sb.getD j Sb0).cu + 1 - (v.sb.getD j Sb0).st; omega, hp.fl⟩
  ·exact hp.mono (by omega) (Int.le_refl _)
 ·rcases List.mem_append.1 hx with hx | hx
  ·exact h.ms x hx
  ·rw [List.mem_singleton.1 hx]; exact hm
 ·show y ∈ (sndB v.sb m v.ln).map (·.id)
  rw [hids]
  exact h.mem y (hperm.mem_iff.1 hy)
 ·obtain ⟨j, hj, rfl⟩ := sb_idx hs'
  change j < (sndB v.sb m v.ln).length at hj
  rw [hlen] at hj
  change ((sndB v.sb m v.ln).getD j Sb0).id ∈ sndS v.sb m v.ln at hm'
  show ((sndB v.sb m v.ln).getD j Sb0).cu = v.se + 1
  have hid : ((sndB v.sb m v.ln).getD j Sb0).id = (v.sb.getD j Sb0).id := by rw [hget j hj]; split <;> rfl
  rw [hid] at hm'
  unfold sndS at hm'
  rw [List.mem_filter, fl_at h.inc hj] at hm'
  have hcu := h.att _ (get_sbm hj) hm'.1
  rw [hget j hj, if_pos ⟨hm'.1, by simpa using hm'.2⟩]
  show (v.sb.getD j Sb0).cu + 1 = _
  omega
 ·show v.se + 1 - oldR (sndV v m) ≤ ((v.it ++ [m]).length : Int)
  rw [List.length_append, List.length_singleton]
  omega
theorem ok_snd {v : Rv} (h : okR restR v = true) (m : Tm) : okR restR (snR v m) = true := by
  unfold snR
  rw [if_pos h]
  split
  · exact h
  · rename_i h1
    split
    · rename_i h2
      split
      · exact h
      · rename_i h3
        exact ok_sndV h h1 h2 h3
    · exact h
open Go.RowKit Go.Maps Pl Il
def setLL : List Value → Nat → List Value → List Value
  | l, _, [] => l
  | l, o, v :: vs => setLL (l.set o v) (o + 1) vs
theorem setLL_get : ∀ (vs l : List Value) (o i : Nat), o + vs.length ≤ l.length → (setLL l o vs)[i]? = if o ≤ i ∧ i < o + vs.length then vs[i - o]? else l[i]?
  | [], l, o, i, _ => by unfold setLL; rw [if_neg (by simp only [List.length_nil]; omega)]
  | v :: vs, l, o, i, h => by
    unfold setLL
    simp only [List.length_cons] at h ⊢
    rw [setLL_get vs _ (o + 1) i (by simp; omega)]
    by_cases h1 : i = o
    · subst h1
      rw [if_neg (by omega), if_pos (by omega), List.getElem?_set, if_pos rfl, if_pos (by omega), Nat.sub_self]
      rfl
    · by_cases h2 : o + 1 ≤ i ∧ i < o + 1 + vs.length
      · rw [if_pos h2, if_pos (by omega), show i - o = (i - (o + 1)) + 1 by omega, List.getElem?_cons_succ]
      · rw [if_neg h2, if_neg (by omega), List.getElem?_set, if_neg (by omega)]
theorem row_setL {B g n c : Nat} {t : TypeId} {sz : Nat} : ∀ (vs : List Value) (w : World) (o : Nat) (l : List Value), w.ownsRow B t sz (.slice (some ⟨g, 0, none⟩) n c) n l → (setL w g o vs).ownsRow B t sz (.slice (some ⟨g, 0, none⟩) n c) n (setLL l o vs)
  | [], _, _, _, h => h
  | v :: vs, w, o, l, h => by
    unfold setL setLL
    exact row_setL vs _ _ _ (h.stored o v).1
theorem sflat_setS {xs : List Sa} {k : Nat} {x : Sa} (hk : k < xs.length) : setLL (sflat xs) (k * 7) (sC x) = sflat (xs.set k x) := by
  have hl : (sflat xs).length = xs.length * 7 := length_sflat xs
  have hl2 : (sflat (xs.set k x)).length = xs.length * 7 := by rw [length_sflat, List.length_set]
  refine List.ext_getElem? fun i => ?_
  rw [setLL_get _ _ _ _ (by rw [hl]; simp; omega)]
  by_cases hi : i < xs.length * 7
  · have e1 := sflat_at (xs.set k x) (i / 7) (i % 7) (by rw [List.length_set]; omega) (by omega)
    have e2 := sflat_at xs (i / 7) (i % 7) (by omega) (by omega)
    rw [show i / 7 * 7 + i % 7 = i by omega] at e1 e2
    rw [e1]
    have e3 : sg (xs.set k x) (i / 7) = if k = i / 7 then x else sg xs (i / 7) := by
      rw [sg_eq (by rw [List.length_set]; omega), List.getElem_set]
      split
      · rfl
      · rw [sg_eq (by omega)]
    rw [e3]
    by_cases hik : k = i / 7
    · rw [if_pos hik, if_pos (by simp; omega), show i - k * 7 = i % 7 by omega]
    · rw [if_neg hik, if_neg (by simp; omega), e2]
  · rw [if_neg (by simp; omega), List.getElem?_eq_none (by omega), List.getElem?_eq_none (by omega)]
theorem RRow.sub_row {B : Nat} {w : World} {M : Rm} {v : Rv} (h : RRow B w M v) {k : Nat} (hk : k < v.sb.length) : ∃ g, M.sa = some ⟨g, 0, none⟩ ∧ M.s = M.xs.length ∧ k < M.xs.length := by
  have hl : M.xs.length = v.sb.length := by rw [← h.sv]; simp [svs]
  obtain ⟨h1, ⟨e, e0⟩ | ⟨g, cp, cur, e, _⟩⟩ := h.sb
  · rw [e0, length_sflat] at h1; omega
  · injection e with e1
    exact ⟨g, e1, by rw [length_sflat] at h1; omega, by omega⟩
theorem blkR_set {M : Rm} {k : Nat} {s' : Sb} (hk : k < M.xs.length) : blkR { M with xs := M.xs.set k ⟨s', (sg M.xs k).a, (sg M.xs k).n, (sg M.xs k).c⟩ } = blkR M := by
  have e : (M.xs.set k ⟨s', (sg M.xs k).a, (sg M.xs k).n, (sg M.xs k).c⟩).map (fun x => (Value.slice x.a x.n x.c).ownBlock) = M.xs.map fun x => (Value.slice x.a x.n x.c).ownBlock := by
    refine List.ext_getElem (by simp) fun i h1 h2 => ?_
    simp only [List.getElem_map, List.getElem_set]
    split
    · rename_i h'
      subst h'
      rw [sg_eq hk]
    · rfl
  unfold blkR
  simp only
  rw [e]
theorem rowB {B K : Nat} {w w' : World} {t : TypeId} {s : Nat} {v : Value} {n : Nat} {xs : List Value} (h : w.ownsRow B t s v n xs) (hb : Below K w w') (hlt : ∀ q, v.ownBlock = some q → q < K) : w'.ownsRow B t s v n xs := by
  obtain ⟨hl, hn | ⟨g, cap, cur, rfl, hB, hg, hr⟩⟩ := h
  · exact ⟨hl, .inl hn⟩
  · exact ⟨hl, .inr ⟨g, cap, cur, rfl, hB, by rw [hb.block g (hlt g rfl)]; exact hg, hr⟩⟩
theorem RRow.far {B K : Nat} {w w' : World} {M : Rm} {v : Rv} (h : RRow B w M v) (hb : Below K w w') (hlt : ∀ q, some q ∈ blkR M → q < K) : RRow B w' M v :=
  have key : ∀ {u : Value}, u.ownBlock ∈ blkR M → ∀ q, u.ownBlock = some q → q < K := fun {u} hu q e => hlt q (by rw [← e]; exact hu)
  ⟨rowB h.it hb (key (by simp [blkR])), h.its, rowB h.sb hb (key (by simp [blkR])), fun x hx => rowB (h.fl x hx) hb (key (by
    unfold blkR
    exact List.mem_cons_of_mem _ (List.mem_cons_of_mem _ (List.mem_cons_of_mem _ (List.mem_cons_of_mem _ (List.mem_map.2 ⟨x, hx, rfl⟩)))))), h.fls, h.sv, rowB h.ln hb (key (by simp [blkR])), rowB h.gs hb (key (by simp [blkR])), h.apt⟩
theorem RRow.putSub {B : Nat} {w : World} {M : Rm} {v : Rv} {g k : Nat} {s' : Sb} (h : RRow B w M v) (hg : M.sa = some ⟨g, 0, none⟩) (hk : k < M.xs.length) (hf : s'.fl = (sg M.xs k).s.fl) :
    RRow B (setL w g (k * 7) (sC ⟨s', (sg M.xs k).a, (sg M.xs k).n, (sg M.xs k).c⟩)) { M with xs := M.xs.set k ⟨s', (sg M.xs k).a, (sg M.xs k).n, (sg M.xs k).c⟩ } { v with sb := v.sb.set k s' } ∧ w.grownBy (setL w g (k * 7) (sC ⟨s', (sg M.xs k).a, (sg M.xs k).n, (sg M.xs k).c⟩)) (some g) := by
  have hA : AptP _ _ _ _ _ := apt_iff.1 h.apt
  have hsb := h.sb
  rw [hg] at hsb
  have r1 := row_setL (sC ⟨s', (sg M.xs k).a, (sg M.xs k).n, (sg M.xs k).c⟩) w (k * 7) _ hsb
  rw [sflat_setS hk] at r1
  have gr : w.grownBy (setL w g (k * 7) (sC ⟨s', (sg M.xs k).a, (sg M.xs k).n, (sg M.xs k).c⟩)) (some g) := setL_grown ⟨rfl, rfl, rfl, Nat.le_refl _, fun _ _ _ => rfl⟩
  have hb : (Value.slice M.sa M.s M.sc).ownBlock = some g := by rw [hg]; rfl
  have hmem : ∀ x, x ∈ M.xs.set k ⟨s', (sg M.xs k).a, (sg M.xs k).n, (sg M.xs k).c⟩ → ∃ y, y ∈ M.xs ∧ x.a = y.a ∧ x.n = y.n ∧ x.c = y.c ∧ x.s.fl = y.s.fl := fun x hx => by
    rcases List.mem_or_eq_of_mem_set hx with h' | h'
    · exact ⟨x, h', rfl, rfl, rfl, rfl⟩
    · exact ⟨sg M.xs k, sg_mem hk, by rw [h'], by rw [h'], by rw [h'], by rw [h']; exact hf⟩
  refine ⟨⟨rowG h.it gr (fun q e e' => ?_), h.its, by rw [hg]; exact r1, fun x hx => ?_, fun x hx p hp => ?_, ?_, rowG h.ln gr (fun q e e' => ?_), rowG h.gs gr (fun q e e' => ?_), ?_⟩, gr⟩
  · injection e with e; subst e; exact hA.is _ e' hb
  · obtain ⟨y, hy, e1, e2, e3, e4⟩ := hmem x hx
    rw [e1, e2, e3, e4]
    exact rowG (h.fl y hy) gr (fun q e e' => by injection e with e; subst e; exact hA.sx _ (List.mem_map.2 ⟨y, hy, rfl⟩) _ hb e')
  · obtain ⟨y, hy, _, _, _, e4⟩ := hmem x hx
    rw [e4] at hp
    exact h.fls y hy p hp
  · show svs (M.xs.set k _) = v.sb.set k s'
    rw [← h.sv]
    simp only [svs, List.map_set]
  · injection e with e; subst e; exact hA.sl _ hb e'
  · injection e with e; subst e; exact hA.sg _ hb e'
  · rw [blkR_set hk]; exact h.apt
theorem RRow.item {B : Nat} {w : World} {M : Rm} {v : Rv} {i : Nat} (h : RRow B w M v) (hi : i < M.i) : ∃ bi, M.ia = some ⟨bi, 0, none⟩ ∧ v.it.length = M.i ∧ w.cell? ⟨bi, i * 3, none⟩ = some (.int .i64 (qg v.it i).1) ∧ w.cell? ⟨bi, i * 3 + 1, none⟩ = some (.int .i64 (qg v.it i).2.1) ∧ w.cell? ⟨bi, i * 3 + 2, none⟩ = some (.string (qg v.it i).2.2) := by
  obtain ⟨hl, ⟨e, _⟩ | ⟨g', c', cur, e, hB, hg, hc, hm, hs, ht⟩⟩ := h.it
  · have : M.i = 0 := by injection e
    omega
  · injection e with e1 e2 e3
    have hlen : v.it.length = M.i := by rw [length_qflat] at hl; omega
    have key : ∀ r, r < 3 → w.cell? ⟨g', i * 3 + r, none⟩ = (qflat v.it)[i * 3 + r]? := fun r hr => by
      rw [cell_of_row w g' (i * 3 + r) cur _ (0, 0) hg, ← ht, List.getElem?_take_of_lt (by omega), Array.getElem?_toList]
    refine ⟨g', e1, hlen, ?_, ?_, ?_⟩
    · have := key 0 (by omega); rw [qflat_at _ _ _ (by omega) (by omega)] at this; exact this
    · have := key 1 (by omega); rw [qflat_at _ _ _ (by omega) (by omega)] at this; exact this
    · have := key 2 (by omega); rw [qflat_at _ _ _ (by omega) (by omega)] at this; exact this
theorem BoxL.setAll {N : Nat} {vs us : List Value} {w : World} (h : BoxL N vs w) (hl : us.length = vs.length) : BoxL N us (setL w N 0 us) :=
  ⟨by rw [setL_size]; exact h.lt, fun i hi => by
    have k := setL_same (g := N) (vs := us) (w := w) (o := 0) (fun j hj => ⟨_, by rw [Nat.zero_add]; exact h.cs j (by omega)⟩) i hi
    rwa [Nat.zero_add] at k, fun o => by rw [setL_fr]; exact h.fr o⟩
theorem BoxL.setFar {N M o : Nat} {vs us : List Value} {w : World} (h : BoxL N vs w) (hM : N ≠ M) : BoxL N vs (setL w M o us) := h.of_block (setL_block hM) (by rw [setL_size]; exact h.lt)
def RdP (B : Nat) (w : World) (M : Rm) (v : Rv) (k : Nat) (e : Ending) (w' : World) : Prop := ∃ xs' : List Sa, e = .returned (.tuple #[.agg #[.int .i64 v.cp, .int .i64 v.se, .slice M.ia M.i M.ic, .int .i64 v.nx, .slice M.sa M.s M.sc, .slice M.la M.l M.lc, .slice M.ga M.g M.gc, .bool v.cl], .agg #[.int .i64 (readT v (v.sb.getD k Sb0)).kd, .int .i64 (readT v (v.sb.getD k Sb0)).ms.1, .int .i64 (readT v (v.sb.getD k Sb0)).ms.2.1, .string (readT v (v.sb.getD k Sb0)).ms.2.2, .int .i64 (readT v (v.sb.getD k Sb0)).ix, .int .i64 (readT v (v.sb.getD k Sb0)).n], .int .i64 (readC v (v.sb.getD k Sb0))]) ∧ RRow B w' { M with xs := xs' } (rdV v k) ∧ (∀ y, y ∈ xs' → ∃ x, x ∈ M.xs ∧ y.n = x.n) ∧ w.grownBy w' (Value.slice M.sa M.s M.sc).ownBlock ∧ blkR { M with xs := xs' } = blkR M
theorem RdP.mk {B : Nat} {w U w' : World} {M : Rm} {v : Rv} {k g : Nat} {e : Ending} {s' : Sb} {td : Td} {c : Int} (hR : RRow B w M v) (hg : M.sa = some ⟨g, 0, none⟩) (hk : k < M.xs.length) (hwU : Below w.heap.size w U) (hY : Below w.heap.size (setL U g (k * 7) (sC ⟨s', (sg M.xs k).a, (sg M.xs k).n, (sg M.xs k).c⟩)) w') (hf : s'.fl = (sg M.xs k).s.fl) (hs : readS v (v.sb.getD k Sb0) = s') (ht : readT v (v.sb.getD k Sb0) = td) (hc : readC v (v.sb.getD k Sb0) = c)
    (he : e = .returned (.tuple #[.agg #[.int .i64 v.cp, .int .i64 v.se, .slice M.ia M.i M.ic, .int .i64 v.nx, .slice M.sa M.s M.sc, .slice M.la M.l M.lc, .slice M.ga M.g M.gc, .bool v.cl], .agg #[.int .i64 td.kd, .int .i64 td.ms.1, .int .i64 td.ms.2.1, .string td.ms.2.2, .int .i64 td.ix, .int .i64 td.n], .int .i64 c])) : RdP B w M v k e w' := by
  subst ht hc
  have hput := (hR.keep hwU).putSub hg hk hf
  have hrow : RRow B w' { M with xs := M.xs.set k ⟨s', (sg M.xs k).a, (sg M.xs k).n, (sg M.xs k).c⟩ } (rdV v k) := by
    unfold rdV
    rw [hs]
    exact hput.1.far hY fun q hq => by rw [blkR_set hk] at hq; exact (hR.blk q hq).2
  refine ⟨_, he, hrow, fun y hy => ?_, ?_, blkR_set hk⟩
  · rcases List.mem_or_eq_of_mem_set hy with h' | h'
    · exact ⟨y, h', rfl⟩
    · exact ⟨sg M.xs k, sg_mem hk, by rw [h']⟩
  · have hgr := hput.2
    have hbk : (Value.slice M.sa M.s M.sc).ownBlock = some g := by rw [hg]; rfl
    rw [hbk]
    refine ⟨hY.os.trans (hgr.os.trans hwU.os), hY.tape.trans (hgr.tape.trans hwU.tape), hY.output.trans (hgr.output.trans hwU.output), Nat.le_trans hwU.size (Nat.le_trans hgr.size hY.size), fun j hj hne => ?_⟩
    rw [hY.block j hj, hgr.block j (Nat.lt_of_lt_of_le hj hwU.size) hne, hwU.block j hj]
end Go.Proofs.YtdboaoejlkkoeaaGreat
namespace Go.Proofs.YtdboaoejlkkoeaaGreat
open Go.RowKit Pl Il
theorem inL_short : ∀ (l sub : List UInt8), l.length < sub.length → inL sub l = false
  | [], sub, h => by
    cases sub with
    | nil => simp at h
    | cons _ _ => rfl
  | x :: l, sub, h => by
    unfold inL
    rw [inL_short l sub (by simp at h; omega), Bool.or_false, Bool.eq_false_iff]
    intro e
    have := (List.isPrefixOf_iff_prefix.1 e).length_le
    omega
theorem inL_step {l sub : List UInt8} {i : Nat} (h : ¬ sub.isPrefixOf (l.drop i) = true) : inL sub (l.drop i) = inL sub (l.drop (i + 1)) := by
  rcases Nat.lt_or_ge i l.length with hi | hi
  · have e : inL sub (l.drop i) = (sub.isPrefixOf (l[i] :: l.drop (i + 1)) || inL sub (l.drop (i + 1))) := by
      conv => lhs; rw [List.drop_eq_getElem_cons hi]
      rfl
    rw [List.drop_eq_getElem_cons hi] at h
    rw [e, Bool.eq_false_iff.2 h, Bool.false_or]
  · rw [List.drop_of_length_le hi, List.drop_of_length_le (by omega)]
theorem inL_hit {l sub : List UInt8} (h : sub.isPrefixOf l = true) : inL sub l = true := by
  cases l with
  | nil =>
    cases sub with
    | nil => rfl
    | cons _ _ => simp at h
  | cons x l => unfold inL; simp [h]
theorem ext_drop (s : ByteArray) (i k : Nat) : (s.extract i (i + k)).toList = (s.toList.drop i).take k := by
  rw [ByteArray.toList_eq, ByteArray.toList_eq, ByteArray.data_extract, Array.toList_extract]
  simp [List.extract]
theorem pre_eq {s t : ByteArray} {i : Nat} : ((s.extract i (i + t.size)).toList == t.toList) = t.toList.isPrefixOf (s.toList.drop i) := by
  have hl : t.toList.length = t.size := by rw [ByteArray.toList_eq]; rfl
  rw [ext_drop, Bool.eq_iff_iff, List.isPrefixOf_iff_prefix, List.prefix_iff_eq_take, hl]
  simp only [beq_iff_eq]
  exact eq_comm
set_option maxHeartbeats 1000000 in
theorem l8Holds_any (s t : ByteArray) (w : World) (hs : s.size ≤ 40) (ht : t.size ≤ 10) :
    Calls Tryz.prog 176 #[.string s, .string t] w fun e w' => e = .returned (.bool (inL t.toList s.toList)) ∧ w' = w := by
  go_enter Tryz.func176, Tryz.ntmps176
  go_wp2
  go_loop [5] (fun x => ∃ i : Nat, i ≤ s.size + 1 ∧ x = .int .i64 i ∧ inL t.toList (s.toList.drop i) = inL t.toList s.toList ∧ (0 < i → 0 < t.size)) (fun x => s.size + 1 - (intOf x).toNat)
  case atStart => exact ⟨0, Nat.zero_le _, rfl, rfl, fun h => by omega⟩
  case round =>
    obtain ⟨i, hi, rfl, hp, hpos⟩ := hrel
    have hl : s.toList.length = s.size := by rw [ByteArray.toList_eq]; rfl
    have hl' : t.toList.length = t.size := by rw [ByteArray.toList_eq]; rfl
    have HP := hidOf hp
    have HL := hidOf (And.intro hl hl')
    clear hp hl hl'
    by_cases hle : i + t.size ≤ s.size
    · have h1 : (i : Int) + (t.size : Int) ≤ (s.size : Int) := by omega
      have hpe := @pre_eq s t i
      cases hq : t.toList.isPrefixOf (s.toList.drop i)
      · rw [hq] at hpe
        have HQ := hidOf (inL_step (l := s.toList) (sub := t.toList) (i := i) (by rw [hq]; simp))
        have HN : 0 < t.size := by
          rcases Nat.eq_zero_or_pos t.size with h0 | h0
          · have : t.toList = [] := List.length_eq_zero_iff.1 (by rw [HL.out.2, h0])
            rw [this] at hq
            simp at hq
          · exact h0
        clear hq
        go_wp2
        go_round
        case rel => exact ⟨i + 1, by omega, by go_num, by rw [← HP.out, HQ.out], fun _ => HN⟩
        case measure => simp [intOf]; omega
      · rw [hq] at hpe
        have HQ := hidOf (inL_hit hq)
        clear hq
        go_wp2
        go_ret
        exact ⟨rbool (by rw [← HP.out, HQ.out]), rfl⟩
    · have h1 : ¬ (i : Int) + (t.size : Int) ≤ (s.size : Int) := by omega
      have HQ := hidOf (inL_short (s.toList.drop i) t.toList (by rw [List.length_drop, HL.out.1, HL.out.2]; omega))
      go_wp2
      go_ret
      exact ⟨rbool (by rw [← HP.out, HQ.out]), rfl⟩
theorem okB_two {k n : Int} {s : ByteArray} (h : okB k n s = true) : k = 1 ∨ k = 2 ∧ s.size ≤ 40 := by
  by_cases h1 : k = 1
  · exact .inl h1
  · by_cases h2 : k = 2
    · subst h2
      simp [okB, plainB] at h
      exact .inr ⟨rfl, h.2.1⟩
    · simp [okB, h1, h2] at h
theorem ok_67 {op n : Int} {t : ByteArray} (h : okTm (op, n, t) = true) (ho : op = 6 ∨ op = 7) : t.size ≤ 10 := by
  rcases ho with rfl | rfl
  · simp [okTm, partB] at h; omega
  · simp [okTm, partB] at h; omega
set_option maxHeartbeats 4000000 in
theorem l8Says_any (t : Tm) (k n : Int) (s : ByteArray) (w : World) (hok : okTm t = true) (hc : cntM t.1 = 0) (hm : okB k n s = true) :
    Calls Tryz.prog 148 #[.agg #[.int .i64 t.1, .int .i64 t.2.1, .string t.2.2], .agg #[.int .i64 k, .int .i64 n, .string s]] w fun e w' => e = .returned (.bool (leafP t (bdOf k n s))) ∧ Below w.heap.size w w' := by
  obtain ⟨op, num, t⟩ := t
  have h := leaf_ops hok hc
  simp only at h ⊢
  have hb : ∀ op : Int, Below w.heap.size w ((w.alloc (.cells #[.int .i64 op, .int .i64 num, .string t] 132)).alloc (.cells #[.int .i64 k, .int .i64 n, .string s] 30)) := fun _ => bl_alloc (bl_alloc (Below.refl _ _) _) _
  rcases okB_two hm with rfl | ⟨rfl, hs⟩
  · have HB := fun op => hidOf (hb op)
    have h5 : op = 5 → ¬ num = 0 ∧ ¬ num = -1 := fun e => by subst e; have := ok_5 hok; omega
    clear hb hm hok hc
    rcases h with rfl | rfl | rfl | rfl | rfl | rfl | rfl
    all_goals (try (obtain ⟨n0, n1⟩ := h5 rfl))
    all_goals clear h5
    all_goals go_enter Tryz.func148, Tryz.ntmps148
    all_goals go_wp2_with fail
    all_goals (try go_quiet (fail))
    all_goals (try go_wp2)
    all_goals (try go_ret)
    all_goals first | (refine ⟨rbool ?_, (HB _).out⟩; simp [leafP, bdOf]; done) | (refine ⟨rbool ?_, bl_drewN (HB _).out _⟩; simp [leafP, bdOf]; done) | (refine ⟨rbool ?_, (HB _).out⟩; simp [leafP, bdOf]; rw [Bool.eq_iff_iff]; simp)
  · have HB := fun op => hidOf (hb op)
    have ht : op = 6 ∨ op = 7 → t.size ≤ 10 := fun e => ok_67 hok e
    clear hb hm hok hc
    rcases h with rfl | rfl | rfl | rfl | rfl | rfl | rfl
    iterate 5
      · clear ht
        go_enter Tryz.func148, Tryz.ntmps148
        go_wp2_with fail
        (try go_ret)
        exact ⟨rbool (by simp [leafP, bdOf]), (HB _).out⟩
    · have ht' := ht (.inl rfl)
      clear ht
      by_cases hle : t.size ≤ s.size
      · have hd : decide ((t.size : Int) ≤ (s.size : Int)) = true := by simp; omega
        have hbe := beg_eq s t
        go_enter Tryz.func148, Tryz.ntmps148
        go_wp2_with fail
        go_quiet (fail)
        (try go_wp2)
        (try go_ret)
        exact ⟨rbool (by simp [leafP, bdOf]), bl_drewN (HB _).out _⟩
      · have hd : decide ((t.size : Int) ≤ (s.size : Int)) = false := by simp; omega
        have hbe := beg_no hle
        go_enter Tryz.func148, Tryz.ntmps148
        go_wp2_with fail
        go_quiet (fail)
        (try go_wp2)
        (try go_ret)
        exact ⟨rbool (by simp [leafP, bdOf, hbe]), bl_drewN (HB _).out _⟩
    · have ht' := ht (.inr rfl)
      have HH := fun u => hidOf (l8Holds_any s t u hs ht')
      clear ht
      go_enter Tryz.func148, Tryz.ntmps148
      go_wp2_with (first | (go_at_call 176; refine ((HH _).out).mono ?_; rintro e w1 ⟨rfl, rfl⟩))
      go_ret
      exact ⟨rbool (by simp [leafP, bdOf]), (HB _).out⟩
end Go.Proofs.YtdboaoejlkkoeaaGreat
