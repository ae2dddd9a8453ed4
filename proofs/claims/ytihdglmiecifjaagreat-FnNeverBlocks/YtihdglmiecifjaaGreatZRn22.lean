/-
  The plain mathematics of a right ring: subscribing, leaving, reading, 
  The plain mathematics of sending: who is told, who stays, what goes
  The plain mathematics of a right ring: sending and skipping leave a ri
  Both filters, the other filter: plain mathematics, and the two sides' 
-/
import Derived.Test.YtihdglmiecifjaaGreatZRn21
namespace Go.Proofs.YtihdglmiecifjaaGreat
open Go.RowKit Go.Maps Pl Il
theorem SubP.mono {se nx se' nx' : Int} {s : Sb} (h : SubP se nx s) (hs : se ≤ se') (hn : nx ≤ nx') : SubP se' nx' s :=
  ⟨h.i0, Int.lt_of_lt_of_le h.i1 hn, h.st, h.sc, Int.le_trans h.cu hs, h.gt, h.lo, h.pa, h.su, h.fl⟩
theorem ok_shut {v : Rv} (h : okR restR v = true) : okR restR (shutR v) = true := by
  rw [okR_iff] at h ⊢
  obtain ⟨h, hl⟩ := h
  have hp : (([] : List Int) ++ (v.gs ++ v.ln)).Perm (v.ln ++ v.gs) := by simpa using List.perm_append_comm
  exact ⟨⟨h.cp, h.se, h.nx, h.few, h.sub, h.inc, h.ms, hp.nodup_iff.2 h.nod, fun y hy => h.mem y (hp.mem_iff.1 hy), fun s hs hm => (by cases hm), fun _ => rfl⟩, hl⟩
theorem ok_clo {v : Rv} (h : okR restR v = true) : okR restR (cloR v) = true := by
  unfold cloR
  rw [if_pos h]
  split
  · exact h
  · exact ok_shut h
theorem erase_sub (ln gs : List Int) (id : Int) : (lessL ln id ++ lessL gs id).Sublist (ln ++ gs) := List.Sublist.append List.erase_sublist List.erase_sublist
theorem ok_lessG {v : Rv} (h : okR restR v = true) (id : Int) : okR restR { v with gs := lessL v.gs id } = true := by
  rw [okR_iff] at h ⊢
  obtain ⟨h, hl⟩ := h
  have hs : (v.ln ++ lessL v.gs id).Sublist (v.ln ++ v.gs) := List.Sublist.append (List.Sublist.refl _) List.erase_sublist
  exact ⟨⟨h.cp, h.se, h.nx, h.few, h.sub, h.inc, h.ms, hs.nodup h.nod, fun y hy => h.mem y (hs.subset hy), h.att, h.clo⟩, hl⟩
theorem old_ge_least (v : Rv) : leastR v.se v.sb ≤ oldR v := by
  unfold oldR
  simp only
  split <;> split <;> omega
theorem ok_sbsV {v : Rv} {f : List Tm} (back : Bool) (h : okR restR v = true) (hf : okF f = true) (h12 : v.sb.length < 12) (hn : v.nx < 1000000000) : okR restR (sbsV v f back) = true := by
  rw [okR_iff] at h ⊢
  obtain ⟨h, hl⟩ := h
  have hob := oldR_bd (v := v) h.se.1 h.cp.1
  have hfr : leastR v.se v.sb ≤ fromR v back ∧ 0 ≤ fromR v back ∧ fromR v back ≤ v.se := by
    unfold fromR
    cases back
    · exact ⟨leastR_le _ _, h.se.1, Int.le_refl _⟩
    · exact ⟨old_ge_least v, hob⟩
  have hlt : ∀ s, s ∈ v.sb → s.id < v.nx := fun s hs => (h.sub s hs).i1
  have hold : oldR (sbsV v f back) = oldR v := by
    have e : leastR v.se (v.sb ++ [newS v (fromR v back) f]) = leastR v.se v.sb := by
      rw [leastR_snoc, if_neg]
      show ¬ fromR v back < _
      omega
    unfold oldR sbsV
    simp only [e]
  rw [hold]
  refine ⟨⟨h.cp, h.se, ⟨?_, ?_⟩, ?_, fun s hs => ?_, ?_, h.ms, h.nod, fun y hy => ?_, fun s hs hm => ?_, h.clo⟩, hl⟩
  · have := h.nx.1; show 0 ≤ v.nx + 1; omega
  · show v.nx + 1 ≤ _; omega
  · show (v.sb ++ [_]).length ≤ 12; rw [List.length_append, List.length_singleton]; omega
  · rcases List.mem_append.1 hs with hs | hs
    · exact (h.sub s hs).mono (Int.le_refl _) (by show v.nx ≤ v.nx + 1; omega)
    · obtain rfl : s = newS v (fromR v back) f := by simpa using hs
      exact ⟨h.nx.1, by show v.nx < v.nx + 1; omega, hfr.2.1, Int.le_refl _, hfr.2.2, Int.le_refl _, Int.le_refl _, Int.le_refl _, by show (0 : Int) + 0 + 0 = fromR v back - fromR v back; omega, hf⟩
  · show ((v.sb ++ [newS v (fromR v back) f]).map (·.id)).Pairwise (· < ·)
    rw [List.map_append, List.pairwise_append]
    refine ⟨h.inc, by simp, fun a ha b hb => ?_⟩
    obtain ⟨s, hs, rfl⟩ := List.mem_map.1 ha
    obtain rfl : b = v.nx := by simpa [newS] using hb
    exact hlt s hs
  · show y ∈ (v.sb ++ [newS v (fromR v back) f]).map (·.id)
    rw [List.map_append]
    exact List.mem_append.2 (.inl (h.mem y hy))
  · rcases List.mem_append.1 hs with hs | hs
    · exact h.att s hs hm
    · obtain rfl : s = newS v (fromR v back) f := by simpa using hs
      obtain ⟨t, ht, e⟩ := List.mem_map.1 (h.mem _ (List.mem_append.2 (.inl hm)))
      have h1 := hlt t ht
      rw [e] at h1
      exact absurd h1 (Int.lt_irrefl _)
theorem ok_sbs {v : Rv} (f : List Tm) (back : Bool) (h : okR restR v = true) : okR restR (sbsR v f back) = true := by
  unfold sbsR
  split
  · rename_i hc
    unfold sbsC at hc
    split at hc
    · rename_i h1
      split at hc
      · omega
      · split at hc
        · omega
        · rename_i h3
          exact ok_sbsV back h h1.2 (by omega) (by omega)
    · omega
  · exact h
theorem ok_drop {v : Rv} (h : okR restR v = true) {k : Nat} (hk : k < v.sb.length) : okR restR (trimR (dropV v (v.sb.getD k Sb0).id k)) = true := by
  rw [okR_iff] at h
  obtain ⟨h, hl⟩ := h
  have hs := erase_sub v.ln v.gs (v.sb.getD k Sb0).id
  refine ok_trim ⟨h.cp, h.se, h.nx, ?_, fun s hs => h.sub s (List.mem_of_mem_eraseIdx hs), ?_, h.ms, hs.nodup h.nod, fun y hy => ?_, fun s hs hm => h.att s (List.mem_of_mem_eraseIdx hs) (List.mem_of_mem_erase hm), fun hc => (by show v.ln.erase _ = []; rw [h.clo hc]; rfl)⟩ ?_
  · have h1 := h.few
    show (v.sb.eraseIdx k).length ≤ 12
    rw [List.length_eraseIdx]
    split <;> omega
  · exact List.Pairwise.sublist ((List.eraseIdx_sublist v.sb k).map _) h.inc
  · have hne : y ≠ (v.sb.getD k Sb0).id := by
      have hn := h.nod
      rw [List.nodup_append] at hn
      rintro rfl
      rcases List.mem_append.1 hy with hy | hy
      · exact (List.Nodup.not_mem_erase hn.1) hy
      · exact (List.Nodup.not_mem_erase hn.2.1) hy
    obtain ⟨t, ht, rfl⟩ := List.mem_map.1 (h.mem y (hs.subset hy))
    obtain ⟨j, hj, rfl⟩ := sb_idx ht
    refine List.mem_map.2 ⟨v.sb.getD j Sb0, ?_, rfl⟩
    show _ ∈ v.sb.eraseIdx k
    rw [List.mem_eraseIdx_iff_getElem]
    exact ⟨j, hj, by rintro rfl; exact hne rfl, by rw [get_sb hj]⟩
  · have h1 := drop_old v (v.sb.getD k Sb0).id k
    show v.se - _ ≤ (v.it.length : Int)
    omega
theorem ok_uns {v : Rv} (h : okR restR v = true) (id : Int) : okR restR (unsR v id) = true := by
  unfold unsR
  rw [if_pos h]
  split
  · exact h
  · rename_i h1
    obtain ⟨h2, h3⟩ := at_id2 (show 0 ≤ atR v.sb id by omega)
    have := ok_drop h h2
    rw [h3] at this
    exact this
theorem set_ids {sb : List Sb} {k : Nat} {s : Sb} (hk : k < sb.length) (e : s.id = (sb.getD k Sb0).id) : (sb.set k s).map (·.id) = sb.map (·.id) := by
  rw [List.map_set, e, get_sb hk]
  refine List.ext_getElem (by simp) fun i h1 h2 => ?_
  rw [List.getElem_set]
  split
  · subst_vars; simp
  · rfl
theorem ok_set {v : Rv} (h : okR restR v = true) {k : Nat} (hk : k < v.sb.length) {s : Sb} (hp : SubP v.se v.nx s) (hi : s.id = (v.sb.getD k Sb0).id) (hl : (v.sb.getD k Sb0).id ∉ v.ln) : OkW { v with sb := v.sb.set k s } := by
  rw [okR_iff] at h
  obtain ⟨h, _⟩ := h
  refine ⟨h.cp, h.se, h.nx, by show (v.sb.set k s).length ≤ 12; rw [List.length_set]; exact h.few, fun t ht => ?_, ?_, h.ms, h.nod, fun y hy => ?_, fun t ht hm => ?_, h.clo⟩
  · rcases List.mem_or_eq_of_mem_set ht with h' | h'
    · exact h.sub t h'
    · rw [h']; exact hp
  · show ((v.sb.set k s).map (·.id)).Pairwise (· < ·)
    rw [set_ids hk hi]
    exact h.inc
  · show y ∈ (v.sb.set k s).map (·.id)
    rw [set_ids hk hi]
    exact h.mem y hy
  · rcases List.mem_or_eq_of_mem_set ht with h' | h'
    · exact h.att t h' hm
    · rw [h', hi] at hm
      exact absurd hm hl
theorem read_sub {v : Rv} {k : Nat} (h : okR restR v = true) (hk : k < v.sb.length) : SubP v.se v.nx (readS v (v.sb.getD k Sb0)) := by
  have hr := read_nm (ok_rd h hk)
  obtain ⟨h1, h2, h3, h4, h5, h6, h7, h8, h9⟩ := hr
  rw [okR_iff] at h
  have hs := h.1.sub _ (get_sbm hk)
  have := hs.st
  have := hs.sc
  exact ⟨by rw [h3]; exact hs.i0, by rw [h3]; exact hs.i1, by rw [h2]; exact hs.st, by rw [h2]; omega, h5, h6, h7, h8, h9, by rw [h4]; exact hs.fl⟩
theorem ok_wait {v : Rv} (h : okR restR v = true) {k : Nat} (hk : k < v.sb.length) (hl : (v.sb.getD k Sb0).id ∉ v.ln) (hg : (v.sb.getD k Sb0).id ∉ v.gs) : okR restR (trimR (waitV v k (v.sb.getD k Sb0).id)) = true := by
  have hrd := ok_rd h hk
  have hr := read_nm hrd
  have hp := read_sub h hk
  have hW : OkW (rdV v k) := ok_set h hk hp hr.2.2.1 hl
  have ho := rd_old hrd
  have h' := h
  rw [okR_iff] at h'
  have hlen := h'.2
  unfold waitV
  split
  · rename_i hc
    have hcu : (readS v (v.sb.getD k Sb0)).cu = v.se ∧ ¬ v.cl = true := by
      unfold readC at hc
      split at hc
      · omega
      · rename_i hg0
        split at hc
        · omega
        · rename_i hs
          split at hc
          · omega
          · rename_i hcl
            refine ⟨?_, hcl⟩
            have ht := tail_len hrd hg0
            have hsk := skip_le (v.sb.getD k Sb0).fl (tailR v (v.sb.getD k Sb0))
            unfold readS
            rw [if_neg hg0, if_neg hs]
            show (v.sb.getD k Sb0).cu + _ = v.se
            omega
    refine ok_trim (v := { rdV v k with ln := v.ln ++ [(v.sb.getD k Sb0).id] }) ⟨hW.cp, hW.se, hW.nx, hW.few, hW.sub, hW.inc, hW.ms, ?_, fun y hy => ?_, fun s hs hm => ?_, fun hcl => absurd hcl hcu.2⟩ ?_
    · have hn := hW.nod
      have hperm : ((v.ln ++ [(v.sb.getD k Sb0).id]) ++ v.gs).Perm ((v.sb.getD k Sb0).id :: (v.ln ++ v.gs)) := by
        rw [List.append_assoc]
        exact List.perm_middle
      refine hperm.nodup_iff.2 (List.nodup_cons.2 ⟨fun hm => ?_, hn⟩)
      rcases List.mem_append.1 hm with hm | hm
      · exact hl hm
      · exact hg hm
    · have hy' : y ∈ (v.ln ++ [(v.sb.getD k Sb0).id]) ++ v.gs := hy
      simp only [List.mem_append, List.mem_singleton] at hy'
      rcases hy' with (hy' | hy') | hy'
      · exact hW.mem y (List.mem_append.2 (.inl hy'))
      · rw [hy']
        show _ ∈ (v.sb.set k _).map (·.id)
        rw [set_ids hk hr.2.2.1]
        exact List.mem_map.2 ⟨_, get_sbm hk, rfl⟩
      · exact hW.mem y (List.mem_append.2 (.inr hy'))
    · have hm' : s.id ∈ v.ln ++ [(v.sb.getD k Sb0).id] := hm
      rcases List.mem_append.1 hm' with hm' | hm'
      · exact hW.att s hs hm'
      · have e : s.id = (v.sb.getD k Sb0).id := by simpa using hm'
        have e2 : s = readS v (v.sb.getD k Sb0) := inc_one hW.inc hs (by
          have h1 := get_sbm (sb := v.sb.set k (readS v (v.sb.getD k Sb0))) (k := k) (by rw [List.length_set]; exact hk)
          rw [set_getD hk] at h1
          exact h1) (by rw [e, hr.2.2.1])
        rw [e2]
        exact hcu.1
    · show v.se - oldR (rdV v k) ≤ (v.it.length : Int)
      omega
  · refine ok_trim hW ?_
    show v.se - oldR (rdV v k) ≤ (v.it.length : Int)
    omega
theorem not_has {xs : List Int} {x : Int} (h : ¬ hasL xs x = true) : x ∉ xs := by simpa [hasL] using h
theorem ok_rec {v : Rv} (h : okR restR v = true) (id : Int) : okR restR (recG v id) = true := by
  unfold recG
  rw [if_pos h]
  split
  · exact h
  · rename_i h1
    split
    · exact h
    · rename_i h2
      obtain ⟨h3, h4⟩ := at_id2 (show 0 ≤ atR v.sb id by omega)
      simp only [Bool.or_eq_true, not_or] at h2
      have := ok_wait h h3 (by rw [h4]; exact not_has h2.1) (by rw [h4]; exact not_has h2.2)
      rw [h4] at this
      exact this
theorem ok_pro {v : Rv} (h : okR restR v = true) (id : Int) : okR restR (proG v id) = true := by
  unfold proG
  rw [if_pos h]
  split
  · exact h
  · rename_i h1
    split
    · rename_i h2
      have h' := h
      rw [okR_iff] at h'
      have hm : id ∈ v.gs := by simpa [hasL] using h2
      obtain ⟨h3, h4⟩ := at_id2 (at_mem (h'.1.mem id (List.mem_append.2 (.inr hm))))
      have hn := h'.1.nod
      rw [List.nodup_append] at hn
      have := ok_wait (v := { v with gs := lessL v.gs id }) (ok_lessG h id) h3 (by show (v.sb.getD _ Sb0).id ∉ v.ln; rw [h4]; exact not_has h1) (by show (v.sb.getD _ Sb0).id ∉ v.gs.erase id; rw [h4]; exact List.Nodup.not_mem_erase hn.2.1)
      have e : (v.sb.getD (atR v.sb id).toNat Sb0).id = id := h4
      simp only [e] at this
      exact this
    · exact h
open Go.RowKit Go.Maps Pl Il
def flAt (sb : List Sb) (id : Int) : List Tm := (sb.getD (atR sb id).toNat Sb0).fl
def bump (sb : List Sb) (k : Nat) : List Sb := sb.set k (passS (sb.getD k Sb0) 1)
theorem bump_len (sb : List Sb) (k : Nat) : (bump sb k).length = sb.length := by simp [bump]
theorem bump_get (sb : List Sb) (k j : Nat) (hj : j < sb.length) : (bump sb k).getD j Sb0 = if k = j then passS (sb.getD j Sb0) 1 else sb.getD j Sb0 := by
  unfold bump
  rw [List.getD_eq_getElem?_getD, List.getElem?_set]
  by_cases h : k = j
  · subst h
    rw [if_pos rfl, if_pos hj, if_pos rfl]
    rfl
  · rw [if_neg h, if_neg h, ← List.getD_eq_getElem?_getD]
theorem bump_ids (sb : List Sb) (k : Nat) : (bump sb k).map (·.id) = sb.map (·.id) := by
  refine List.ext_getElem (by simp [bump]) fun i h1 h2 => ?_
  have hi : i < sb.length := by simpa using h2
  simp only [bump, List.getElem_map, List.getElem_set]
  split
  · rename_i h
    subst h
    rw [List.getD, List.getElem?_eq_getElem hi, Option.getD_some]
    rfl
  · rfl
theorem atR_ids {sb sb' : List Sb} (h : sb'.map (·.id) = sb.map (·.id)) (id : Int) : atR sb' id = atR sb id := by
  have key : ∀ l : List Sb, l.findIdx? (fun s => s.id == id) = (l.map (·.id)).findIdx? (fun x => x == id) := fun l => by
    rw [List.findIdx?_map]
    rfl
  unfold atR
  rw [key, key, h]
theorem bump_fls (sb : List Sb) (k j : Nat) : ((bump sb k).getD j Sb0).fl = (sb.getD j Sb0).fl := by
  by_cases hj : j < sb.length
  · rw [bump_get _ _ _ hj]
    split <;> rfl
  · unfold bump
    simp only [List.getD_eq_getElem?_getD]
    rw [List.getElem?_eq_none (by simp; omega), List.getElem?_eq_none (l := sb) (by omega)]
def sndT (sb : List Sb) (m : Tm) (l : List Int) : List Int := l.filter fun id => pasR (flAt sb id) m
def sndS (sb : List Sb) (m : Tm) (l : List Int) : List Int := l.filter fun id => !pasR (flAt sb id) m
def sndB (sb : List Sb) (m : Tm) (l : List Int) : List Sb := l.foldl (fun s id => if pasR (flAt sb id) m = true then s else bump s (atR sb id).toNat) sb
theorem sndT_snoc (sb : List Sb) (m : Tm) (l : List Int) (id : Int) : sndT sb m (l ++ [id]) = if pasR (flAt sb id) m = true then sndT sb m l ++ [id] else sndT sb m l := by
  unfold sndT
  rw [List.filter_append]
  by_cases h : pasR (flAt sb id) m = true
  · rw [if_pos h]; simp [h]
  · rw [if_neg h]; simp [h]
theorem sndS_snoc (sb : List Sb) (m : Tm) (l : List Int) (id : Int) : sndS sb m (l ++ [id]) = if pasR (flAt sb id) m = true then sndS sb m l else sndS sb m l ++ [id] := by
  unfold sndS
  rw [List.filter_append]
  by_cases h : pasR (flAt sb id) m = true
  · rw [if_pos h]; simp [h]
  · rw [if_neg h]; simp [h]
theorem sndB_snoc (sb : List Sb) (m : Tm) (l : List Int) (id : Int) : sndB sb m (l ++ [id]) = if pasR (flAt sb id) m = true then sndB sb m l else bump (sndB sb m l) (atR sb id).toNat := by
  unfold sndB
  rw [List.foldl_append]
  rfl
theorem sndB_len (sb : List Sb) (m : Tm) : ∀ l : List Int, (sndB sb m l).length = sb.length := by
  suffices h : ∀ (l : List Int) (s : List Sb), (l.foldl (fun s id => if pasR (flAt sb id) m = true then s else bump s (atR sb id).toNat) s).length = s.length from fun l => h l sb
  intro l
  induction l with
  | nil => intro s; rfl
  | cons id l ih =>
    intro s
    rw [List.foldl_cons, ih]
    split
    · rfl
    · exact bump_len _ _
theorem sndB_ids (sb : List Sb) (m : Tm) : ∀ l : List Int, (sndB sb m l).map (·.id) = sb.map (·.id) := by
  suffices h : ∀ (l : List Int) (s : List Sb), (l.foldl (fun s id => if pasR (flAt sb id) m = true then s else bump s (atR sb id).toNat) s).map (·.id) = s.map (·.id) from fun l => h l sb
  intro l
  induction l with
  | nil => intro s; rfl
  | cons id l ih =>
    intro s
    rw [List.foldl_cons, ih]
    split
    · rfl
    · exact bump_ids _ _
theorem sndB_fls (sb : List Sb) (m : Tm) (j : Nat) : ∀ l : List Int, ((sndB sb m l).getD j Sb0).fl = (sb.getD j Sb0).fl := by
  suffices h : ∀ (l : List Int) (s : List Sb), ((l.foldl (fun s id => if pasR (flAt sb id) m = true then s else bump s (atR sb id).toNat) s).getD j Sb0).fl = (s.getD j Sb0).fl from fun l => h l sb
  intro l
  induction l with
  | nil => intro s; rfl
  | cons id l ih =>
    intro s
    rw [List.foldl_cons, ih]
    split
    · rfl
    · exact bump_fls _ _ _
theorem sndB_cu (sb : List Sb) (m : Tm) (x : Int) (h : ∀ s, s ∈ sb → x ≤ s.cu) : ∀ l : List Int, ∀ s, s ∈ sndB sb m l → x ≤ s.cu := by
  suffices h' : ∀ (l : List Int) (t : List Sb), (∀ s, s ∈ t → x ≤ s.cu) → 0 ≤ (1 : Int) → (∀ id, id ∈ l → (atR sb id).toNat < t.length ∨ pasR (flAt sb id) m = true ∨ True) → ∀ s, s ∈ l.foldl (fun s id => if pasR (flAt sb id) m = true then s else bump s (atR sb id).toNat) t → x ≤ s.cu from fun l => h' l sb h (by omega) (fun _ _ => .inr (.inr trivial))
  intro l
  induction l with
  | nil => intro t ht _ _; exact ht
  | cons id l ih =>
    intro t ht h1 _
    rw [List.foldl_cons]
    refine ih _ ?_ h1 (fun _ _ => .inr (.inr trivial))
    split
    · exact ht
    · intro s hs
      by_cases hk : (atR sb id).toNat < t.length
      · rcases List.mem_or_eq_of_mem_set hs with h2 | h2
        · exact ht s h2
        · have h3 : t.getD (atR sb id).toNat Sb0 ∈ t := by
            rw [List.getD, List.getElem?_eq_getElem hk, Option.getD_some]; exact List.getElem_mem _
          have h4 := ht _ h3
          rw [h2]
          show x ≤ (t.getD (atR sb id).toNat Sb0).cu + 1
          omega
      · unfold bump at hs
        rw [List.set_eq_of_length_le (by omega)] at hs
        exact ht s hs
def sndV (v : Rv) (m : Tm) : Rv := ⟨v.cp, v.se + 1, v.it ++ [m], v.nx, sndB v.sb m v.ln, sndS v.sb m v.ln, v.gs ++ sndT v.sb m v.ln, v.cl⟩
theorem snd_old {v : Rv} {m : Tm} : oldR v ≤ oldR (sndV v m) := by
  have hl := (least_iff v.sb v.se (leastR v.se v.sb)).1 (Int.le_refl _)
  have h1 : leastR v.se v.sb ≤ leastR (v.se + 1) (sndB v.sb m v.ln) := by
    rw [least_iff]
    exact ⟨by omega, sndB_cu v.sb m _ hl.2 v.ln⟩
  unfold oldR
  simp only [sndV]
  repeat' split
  all_goals omega
theorem snd_first {v : Rv} (h : okR restR v = true) {m : Tm} {f : Nat} (hf : v.se = ((f + v.it.length : Nat) : Int)) : ∃ d : Nat, d ≤ v.it.length + 1 ∧ oldR (sndV v m) = ((f + d : Nat) : Int) ∧ trimR (sndV v m) = { sndV v m with it := (v.it ++ [m]).drop d } := by
  obtain ⟨hcp, hse, _, h16, hlen, _⟩ := ok_head h
  have h1 := snd_old (v := v) (m := m)
  have h2 := oldR_bd (v := sndV v m) (by show 0 ≤ v.se + 1; omega) hcp.1
  have e1 : (sndV v m).se = v.se + 1 := rfl
  have e2 : (sndV v m).it = v.it ++ [m] := rfl
  have e3 : (v.it ++ [m]).length = v.it.length + 1 := by simp
  rw [e1] at h2
  obtain ⟨d, hd⟩ : ∃ d : Nat, oldR (sndV v m) = ((f + d : Nat) : Int) := ⟨(oldR (sndV v m) - f).toNat, by omega⟩
  refine ⟨d, by omega, hd, ?_⟩
  unfold trimR
  rw [e1, e2, e3]
  by_cases h0 : d = 0
  · subst h0
    rw [if_neg (by omega), List.drop_zero]
    rfl
  · rw [if_pos (by omega), show v.it.length + 1 - (v.se + 1 - oldR (sndV v m)).toNat = d by omega]
    first | done | rfl
def snR (v : Rv) (m : Tm) : Rv := if okR restR v = true then (if v.cl = true then v else if okB m.1 m.2.1 m.2.2 = true then (if v.se = 1000000000 then v else trimR (sndV v m)) else v) else v
def snT (v : Rv) (m : Tm) : List Int := if okR restR v = true then (if v.cl = true then [] else if okB m.1 m.2.1 m.2.2 = true then (if v.se = 1000000000 then [] else sndT v.sb m v.ln) else []) else []
def snC (v : Rv) (m : Tm) : Int := if okR restR v = true then (if v.cl = true then 6 else if okB m.1 m.2.1 m.2.2 = true then (if v.se = 1000000000 then 2 else 0) else 1) else 1
def SendDone (F : Nat) : Prop := ∀ (M : Rm) (v : Rv) (m : Tm) (w : World), RIn w M v → RLe M 1048576 → RCap M → RWf v → m.2.2.size ≤ maxLen → GOk w →
  Calls Tryz.prog F #[.agg #[.int .i64 v.cp, .int .i64 v.se, .slice M.ia M.i M.ic, .int .i64 v.nx, .slice M.sa M.s M.sc, .slice M.la M.l M.lc, .slice M.ga M.g M.gc, .bool v.cl], .agg #[.int .i64 m.1, .int .i64 m.2.1, .string m.2.2]] w fun e w' => RgT w (snR v m) (snT v m) (snC v m) e w'
def SendDoneS (F : Nat) : Prop := ∀ (M : Rm) (v : Rv) (m : Tm) (w : World), RIn w M v → RLe M 1048576 → RCap M → RWf v → m.2.2.size ≤ maxLen → GOk w →
  Calls Tryz.prog F #[.agg #[.int .i64 v.cp, .int .i64 v.se, .slice M.ia M.i M.ic, .int .i64 v.nx, .slice M.sa M.s M.sc, .slice M.la M.l M.lc, .slice M.ga M.g M.gc, .bool v.cl], .agg #[.int .i64 m.1, .int .i64 m.2.1, .string m.2.2]] w fun e w' => RgTS w (snR v m) (snT v m) (snC v m) e w'
open Go.RowKit Go.Maps Pl Il
theorem fl_at {sb : List Sb} (hi : (sb.map (·.id)).Pairwise (· < ·)) {j : Nat} (hj : j < sb.length) : flAt sb (sb.getD j Sb0).id = (sb.getD j Sb0).fl := by
  unfold flAt
  rw [at_of hi hj, Int.toNat_natCast]
theorem snd_get {sb : List Sb} (hi : (sb.map (·.id)).Pairwise (· < ·)) (m : Tm) : ∀ (l : List Int) (t : List Sb), t.length = sb.length → l.Nodup → (∀ y, y ∈ l → y ∈ sb.map (·.id)) → ∀ j, j < sb.length →
    (l.foldl (fun s id => if pasR (flAt sb id) m = true then s else bump s (atR sb id).toNat) t).getD j Sb0 = if (sb.getD j Sb0).id ∈ l ∧ pasR (sb.getD j Sb0).fl m = false then passS (t.getD j Sb0) 1 else t.getD j Sb0
  | [], t, _, _, _, j, _ => by rw [if_neg (by simp)]; rfl
  | id :: l, t, ht, hn, hm, j, hj => by
    rw [List.nodup_cons] at hn
    rw [List.foldl_cons]
    obtain ⟨h3, h4⟩ := at_id2 (at_mem (hm id (List.mem_cons_self ..)))
    have hfl : flAt sb id = (sb.getD (atR sb id).toNat Sb0).fl := rfl
    have hl' : (if pasR (flAt sb id) m = true then t else bump t (atR sb id).toNat).length = sb.length := by
      split
      · exact ht
      · rw [bump_len, ht]
    rw [snd_get hi m l _ hl' hn.2 (fun y hy => hm y (List.mem_cons_of_mem _ hy)) j hj]
    by_cases e : (sb.getD j Sb0).id = id
    · have ej : (atR sb id).toNat = j := inc_eq hi h3 hj (by rw [h4, e])
      rw [if_neg (show ¬ ((sb.getD j Sb0).id ∈ l ∧ _) from fun hh => hn.1 (by rw [← e]; exact hh.1)), hfl, ej]
      cases hp : pasR (sb.getD j Sb0).fl m
      · rw [if_neg (by simp), if_pos ⟨by rw [e]; exact List.mem_cons_self .., rfl⟩, bump_get _ _ _ (by omega), if_pos rfl]
      · rw [if_pos rfl, if_neg (by simp)]
    · have ne : ¬ (atR sb id).toNat = j := fun k => e (by rw [← k]; exact h4)
      have hb : (if pasR (flAt sb id) m = true then t else bump t (atR sb id).toNat).getD j Sb0 = t.getD j Sb0 := by
        split
        · rfl
        · rw [bump_get _ _ _ (by omega), if_neg ne]
      rw [hb]
      have hiff : ((sb.getD j Sb0).id ∈ l ∧ pasR (sb.getD j Sb0).fl m = false) ↔ ((sb.getD j Sb0).id ∈ id :: l ∧ pasR (sb.getD j Sb0).fl m = false) := by
        rw [List.mem_cons]
        exact ⟨fun h => ⟨.inr h.1, h.2⟩, fun h => ⟨h.1.resolve_left e, h.2⟩⟩
      by_cases hh : (sb.getD j Sb0).id ∈ l ∧ pasR (sb.getD j Sb0).fl m = false
      · rw [if_pos hh, if_pos (hiff.1 hh)]
      · rw [if_neg hh, if_neg (fun k => hh (hiff.2 k))]
theorem ok_sndV {v : Rv} {m : Tm} (h : okR restR v = true) (hc : ¬ v.cl = true) (hm : okB m.1 m.2.1 m.2.2 = true) (hs : ¬ v.se = 1000000000) : okR restR (trimR (sndV v m)) = true := by
 rw [okR_iff] at h
 obtain ⟨h, hl⟩ := h
 have ho := snd_old (v := v) (m := m)
 have hnl : v.ln.Nodup := by have := h.nod; rw [List.nodup_append] at this; exact this.1
 have hml : ∀ y, y ∈ v.ln → y ∈ v.sb.map (·.id) := fun y hy => h.mem y (List.mem_append.2 (.inl hy))
 have hlen : (sndB v.sb m v.ln).length = v.sb.length := sndB_len _ _ _
 have hget : ∀ j, j < v.sb.length → (sndB v.sb m v.ln).getD j Sb0 = if (v.sb.getD j Sb0).id ∈ v.ln ∧ pasR (v.sb.getD j Sb0).fl m = false then passS (v.sb.getD j Sb0) 1 else v.sb.getD j Sb0 := fun j hj => snd_get h.inc m v.ln v.sb rfl hnl hml j hj
 have hids : (sndB v.sb m v.ln).map (·.id) = v.sb.map (·.id) := sndB_ids _ _ _
 have hperm : (sndS v.sb m v.ln ++ (v.gs ++ sndT v.sb m v.ln)).Perm (v.ln ++ v.gs) := by
  have h1 : (sndT v.sb m v.ln ++ sndS v.sb m v.ln).Perm v.ln := List.filter_append_perm _ _
  have h2 : (sndS v.sb m v.ln ++ (v.gs ++ sndT v.sb m v.ln)).Perm ((sndT v.sb m v.ln ++ sndS v.sb m v.ln) ++ v.gs) := by
   rw [← List.append_assoc]
   refine (List.perm_append_comm).trans ?_
   rw [List.append_assoc]
  exact h2.trans (h1.append_right _)
 refine ok_trim ⟨h.cp, ⟨?_, ?_⟩, h.nx, by show (sndB _ _ _).length ≤ 12; rw [hlen]; exact h.few, fun s hs' => ?_, by show ((sndB _ _ _).map (·.id)).Pairwise _; rw [hids]; exact h.inc, fun x hx => ?_, hperm.nodup_iff.2 h.nod, fun y hy => ?_, fun s hs' hm' => ?_, fun k => absurd k hc⟩ ?_
 ·have := h.se.1; show 0 ≤ v.se + 1; omega
 ·have := h.se.2; show v.se + 1 ≤ 1000000000; omega
 ·obtain ⟨j, hj, rfl⟩ := sb_idx hs'
  change j < (sndB v.sb m v.ln).length at hj
  rw [hlen] at hj
  have hp := h.sub _ (get_sbm hj)
  show SubP (v.se + 1) v.nx ((sndB v.sb m v.ln).getD j Sb0)
  rw [hget j hj]
  split
  ·rename_i hh
   have hcu := h.att _ (get_sbm hj) hh.1
   have := hp.sc
   have := hp.su
   have := hp.pa
   exact ⟨hp.i0, hp.i1, hp.st, by show (v.sb.getD j Sb0).st ≤ (v.sb.getD j Sb0).cu + 1; omega, by show (v.sb.getD j Sb0).cu + 1 ≤ v.se + 1; omega, hp.gt, hp.lo, by show 0 ≤ (v.sb.getD j Sb0).pa + 1; omega, by show (v.sb.getD j Sb0).gt + (v.sb.getD j Sb0).lo + ((v.sb.getD j Sb0).pa + 1) = (v.sb.getD j Sb0).cu + 1 - (v.sb.getD j Sb0).st; omega, hp.fl⟩
  ·exact hp.mono (by omega) (Int.le_refl _)
 ·rcases List.mem_append.1 hx with hx | hx
  ·exact h.ms x hx
  ·rw [List.mem_singleton.1 hx]; exact hm
 ·show y ∈ (sndB v.sb m v.ln).map (·.id)
  rw [hids]
  exact h.mem y (hperm.mem_iff.1 hy)
 ·obtain ⟨j, hj, rfl⟩ := sb_idx hs'
  change j < (sndB v.sb m v.ln).length at hj
  rw [hlen] at hj
  change ((sndB v.sb m v.ln).getD j Sb0).id ∈ sndS v.sb m v.ln at hm'
  show ((sndB v.sb m v.ln).getD j Sb0).cu = v.se + 1
  have hid : ((sndB v.sb m v.ln).getD j Sb0).id = (v.sb.getD j Sb0).id := by rw [hget j hj]; split <;> rfl
  rw [hid] at hm'
  unfold sndS at hm'
  rw [List.mem_filter, fl_at h.inc hj] at hm'
  have hcu := h.att _ (get_sbm hj) hm'.1
  rw [hget j hj, if_pos ⟨hm'.1, by simpa using hm'.2⟩]
  show (v.sb.getD j Sb0).cu + 1 = _
  omega
 ·show v.se + 1 - oldR (sndV v m) ≤ ((v.it ++ [m]).length : Int)
  rw [List.length_append, List.length_singleton]
  omega
theorem ok_snd {v : Rv} (h : okR restR v = true) (m : Tm) : okR restR (snR v m) = true := by
  unfold snR
  rw [if_pos h]
  split
  · exact h
  · rename_i h1
    split
    · rename_i h2
      split
      · exact h
      · rename_i h3
        exact ok_sndV h h1 h2 h3
    · exact h
end Go.Proofs.YtihdglmiecifjaaGreat
namespace Go.Proofs.YtihdglmiecifjaaGreat
open Go.RowKit Pl Il
theorem rowF_below {B : Nat} {w0 w w' : World} {v : Value} {n : Nat} {t : TypeId} {xs : List Value} (h : Below B w0 w) (ho : w.ownsRow B t 3 v n xs) (hg : w.grownBy w' v.ownBlock) (hB : B ≤ w.heap.size) : Below B w0 w' :=
  h.grown hg hB (fun k hk => (ho.lt k hk).1)
theorem TmAt.grown {B : Nat} {w w' : World} {v : Value} {m : Nat} {t : TypeId} {xs : List Value} {a : Option Addr} {n : Nat} {ts : List Tm} (h : TmAt w a n ts) (ho : w.ownsRow B t 3 v m xs) (hg : w.grownBy w' v.ownBlock) (hB : B ≤ w.heap.size) (hlt : n = 0 ∨ ∀ b off, a = some ⟨b, off, none⟩ → b < B) : TmAt w' a n ts :=
  h.below (rowF_below (Below.refl B w) ho hg hB) hlt
theorem short_app {l m : List Tm} (h : ∀ p, p ∈ l → p.2.2.size ≤ maxLen) (k : ∀ p, p ∈ m → p.2.2.size ≤ maxLen) : ∀ p, p ∈ l ++ m → p.2.2.size ≤ maxLen := fun p hp => by
  rcases List.mem_append.1 hp with hp | hp
  · exact h p hp
  · exact k p hp
theorem slice_form {B : Nat} {w : World} {t : TypeId} {v : Value} {n : Nat} {l : List Tm} (ho : w.ownsRow B t 3 v n (qflat l)) : ∃ a c, v = .slice a n c := by
  obtain ⟨_, ⟨rfl, rfl⟩ | ⟨g, cp, cur, rfl, _⟩⟩ := ho
  · exact ⟨_, _, rfl⟩
  · exact ⟨_, _, rfl⟩
end Go.Proofs.YtihdglmiecifjaaGreat
namespace Go.Proofs.YtihdglmiecifjaaGreat
open Go.RowKit Pl Il Dr
set_option maxHeartbeats 4000000 in
theorem l8Leaf_any (a : Option Addr) (len cap : Nat) (c : Nat) (w : World) (hC : Cur c a len cap w) :
  Calls Tryz.prog 188 #[.pointer (some ⟨c, 0, none⟩)] w fun e w' => ∃ t : Tm, e = .returned (.agg #[.int .i64 t.1, .int .i64 t.2.1, .string t.2.2]) ∧ t.2.2.size ≤ 40 ∧ Drawn c a len cap w w' := by
 have hlt := hC.lt
 have hne : w.heap.size ≠ c := by omega
 have HC := hidOf hC
 clear hC
 go_enter Tryz.func188, Tryz.ntmps188
 go_wp2_with fail
 refine (below_any a len cap c _ _ (HC.out.alloc _) (by omega) (by omega)).mono ?_
 rintro e w1 ⟨x, rfl, x0, x1, hd1⟩
 have b1 := (Box3.new w (.int .i64 0) (.int .i64 0) (.string ⟨#[]⟩) 132).drawn hd1 hne
 have hD1 : Drawn c a len cap w w1 := ((Drawn.start HC.out).alloc _).trans hd1
 clear hd1
 by_cases h0 : x = 0
 ·subst h0
  have HD := hidOf (((hD1.store HC.out ⟨w.heap.size, 0, none⟩ (Nat.le_refl _) (.int .i64 1)).store HC.out ⟨w.heap.size, 1, none⟩ (Nat.le_refl _) (.int .i64 0)).store HC.out ⟨w.heap.size, 2, none⟩ (Nat.le_refl _) (.string ⟨#[]⟩))
  obtain ⟨_, p0, p1, p2, pf⟩ := id b1
  clear hD1 b1
  go_wp2
  exact bodyPost_ret (v := .agg #[.int .i64 1, .int .i64 0, .string ⟨#[]⟩]) (by simp [results, Tryz.results188, go_sem, p0, p1, p2]) rfl ⟨(1, 0, ⟨#[]⟩), rfl, (by exact (by decide : (0 : Nat) ≤ 40)), HD.out⟩
 by_cases h1 : x = 1
 ·subst h1
  have HD := hidOf (((hD1.store HC.out ⟨w.heap.size, 0, none⟩ (Nat.le_refl _) (.int .i64 2)).store HC.out ⟨w.heap.size, 1, none⟩ (Nat.le_refl _) (.int .i64 0)).store HC.out ⟨w.heap.size, 2, none⟩ (Nat.le_refl _) (.string ⟨#[]⟩))
  obtain ⟨_, p0, p1, p2, pf⟩ := id b1
  clear hD1 b1
  go_wp2
  exact bodyPost_ret (v := .agg #[.int .i64 2, .int .i64 0, .string ⟨#[]⟩]) (by simp [results, Tryz.results188, go_sem, p0, p1, p2]) rfl ⟨(2, 0, ⟨#[]⟩), rfl, (by exact (by decide : (0 : Nat) ≤ 40)), HD.out⟩
 by_cases h2 : x = 2
 ·subst h2
  have HD := hidOf (((hD1.store HC.out ⟨w.heap.size, 0, none⟩ (Nat.le_refl _) (.int .i64 3)).store HC.out ⟨w.heap.size, 1, none⟩ (Nat.le_refl _) (.int .i64 0)).store HC.out ⟨w.heap.size, 2, none⟩ (Nat.le_refl _) (.string ⟨#[]⟩))
  obtain ⟨_, p0, p1, p2, pf⟩ := id b1
  clear hD1 b1
  go_wp2
  exact bodyPost_ret (v := .agg #[.int .i64 3, .int .i64 0, .string ⟨#[]⟩]) (by simp [results, Tryz.results188, go_sem, p0, p1, p2]) rfl ⟨(3, 0, ⟨#[]⟩), rfl, (by exact (by decide : (0 : Nat) ≤ 40)), HD.out⟩
 by_cases h3 : x = 3
 ·subst h3
  go_wp2_with fail
  refine (below_any a len cap c _ _ hD1.cur (by omega) (by omega)).mono ?_
  rintro e w2 ⟨y, rfl, y0, y1, hd2⟩
  have b2 := b1.drawn hd2 hne
  have hD2 := hD1.trans hd2
  have HD := hidOf (((hD2.store HC.out ⟨w.heap.size, 0, none⟩ (Nat.le_refl _) (.int .i64 4)).store HC.out ⟨w.heap.size, 1, none⟩ (Nat.le_refl _) (.int .i64 (y - 6))).store HC.out ⟨w.heap.size, 2, none⟩ (Nat.le_refl _) (.string ⟨#[]⟩))
  obtain ⟨_, p0, p1, p2, pf⟩ := id b2
  clear hD1 b1 hd2 hD2 b2
  go_wp2
  exact bodyPost_ret (v := .agg #[.int .i64 4, .int .i64 (y - 6), .string ⟨#[]⟩]) (by simp [results, Tryz.results188, go_sem, p0, p1, p2]) rfl ⟨(4, (y - 6), ⟨#[]⟩), rfl, (by exact (by decide : (0 : Nat) ≤ 40)), HD.out⟩
 by_cases h4 : x = 4
 ·subst h4
  go_wp2_with fail
  refine (below_any a len cap c _ _ hD1.cur (by omega) (by omega)).mono ?_
  rintro e w2 ⟨y, rfl, y0, y1, hd2⟩
  have b2 := b1.drawn hd2 hne
  have hD2 := hD1.trans hd2
  have HD := hidOf (((hD2.store HC.out ⟨w.heap.size, 0, none⟩ (Nat.le_refl _) (.int .i64 5)).store HC.out ⟨w.heap.size, 1, none⟩ (Nat.le_refl _) (.int .i64 (1 + y))).store HC.out ⟨w.heap.size, 2, none⟩ (Nat.le_refl _) (.string ⟨#[]⟩))
  obtain ⟨_, p0, p1, p2, pf⟩ := id b2
  clear hD1 b1 hd2 hD2 b2
  go_wp2
  exact bodyPost_ret (v := .agg #[.int .i64 5, .int .i64 (1 + y), .string ⟨#[]⟩]) (by simp [results, Tryz.results188, go_sem, p0, p1, p2]) rfl ⟨(5, (1 + y), ⟨#[]⟩), rfl, (by exact (by decide : (0 : Nat) ≤ 40)), HD.out⟩
 have e0 : (x == 0) = false := by simp [h0]
 have e1 : (x == 1) = false := by simp [h1]
 have e2 : (x == 2) = false := by simp [h2]
 have e3 : (x == 3) = false := by simp [h3]
 have e4 : (x == 4) = false := by simp [h4]
 by_cases h5 : x = 5
 ·subst h5
  go_wp2_with fail
  refine (pick_any a len cap c w1.heap.size 3 _ (hD1.cur.alloc _) (by simp) (by have := hD1.cur.lt; omega) (by omega) (by omega) (row_strs _ _ _ _ (by decide))).mono ?_
  rintro e w2 ⟨t, rfl, ht, hd2⟩
  have b2 := (b1.alloc _).drawn hd2 hne
  have hD2 := (hD1.alloc _).trans hd2
  have HD := hidOf (((hD2.store HC.out ⟨w.heap.size, 0, none⟩ (Nat.le_refl _) (.int .i64 6)).store HC.out ⟨w.heap.size, 1, none⟩ (Nat.le_refl _) (.int .i64 0)).store HC.out ⟨w.heap.size, 2, none⟩ (Nat.le_refl _) (.string t))
  obtain ⟨_, p0, p1, p2, pf⟩ := id b2
  clear hD1 b1 hd2 hD2 b2
  go_wp2
  exact bodyPost_ret (v := .agg #[.int .i64 6, .int .i64 0, .string t]) (by simp [results, Tryz.results188, go_sem, p0, p1, p2]) rfl ⟨(6, 0, t), rfl, ht, HD.out⟩
 ·have e5 : (x == 5) = false := by simp [h5]
  go_wp2_with fail
  refine (pick_any a len cap c w1.heap.size 4 _ (hD1.cur.alloc _) (by simp) (by have := hD1.cur.lt; omega) (by omega) (by omega) (row_strs _ _ _ _ (by decide))).mono ?_
  rintro e w2 ⟨t, rfl, ht, hd2⟩
  have b2 := (b1.alloc _).drawn hd2 hne
  have hD2 := (hD1.alloc _).trans hd2
  have HD := hidOf (((hD2.store HC.out ⟨w.heap.size, 0, none⟩ (Nat.le_refl _) (.int .i64 7)).store HC.out ⟨w.heap.size, 1, none⟩ (Nat.le_refl _) (.int .i64 0)).store HC.out ⟨w.heap.size, 2, none⟩ (Nat.le_refl _) (.string t))
  obtain ⟨_, p0, p1, p2, pf⟩ := id b2
  clear hD1 b1 hd2 hD2 b2
  go_wp2
  exact bodyPost_ret (v := .agg #[.int .i64 7, .int .i64 0, .string t]) (by simp [results, Tryz.results188, go_sem, p0, p1, p2]) rfl ⟨(7, 0, t), rfl, ht, HD.out⟩
open Go.RowKit Pl Il Dr
theorem Drawn.grown {c : Nat} {a : Option Addr} {len cap : Nat} {w u u' : World} {g : Nat} (h : Drawn c a len cap w u) (hC : Cur c a len cap w) (hg : u.grownBy u' (some g)) (hge : w.heap.size ≤ g) : Drawn c a len cap w u' := by
  have hlt := hC.lt
  have key : ∀ b, b < u.heap.size → b ≠ g → u'.heap[b]? = u.heap[b]? := fun b hb hn => hg.block b hb (by simpa using hn)
  have hcell : ∀ o, u'.cell? ⟨c, o, none⟩ = u.cell? ⟨c, o, none⟩ := fun o => World.cell?_of_block (key c h.cur.lt (by omega))
  have hfr : ∀ o, u'.frozen? ⟨c, o, none⟩ = u.frozen? ⟨c, o, none⟩ := fun o => World.frozen?_of_block (key c h.cur.lt (by omega))
  refine ⟨⟨Nat.lt_of_lt_of_le h.cur.lt hg.size, ?_, by rw [hcell]; exact h.cur.at0, by rw [hcell]; exact h.cur.at1, by rw [hcell]; exact h.cur.at2, by rw [hfr]; exact h.cur.fr1, by rw [hfr]; exact h.cur.fr2⟩, ?_⟩
  · obtain ⟨hl, hm, k | ⟨b, off, rfl, hb, hn, hc⟩⟩ := h.cur.bytes
    · exact ⟨hl, hm, .inl k⟩
    · obtain ⟨_, _, k | ⟨b', off', e, hb', _⟩⟩ := hC.bytes
      · exact ⟨hl, hm, .inl k⟩
      · cases e
        refine ⟨hl, hm, .inr ⟨b, off, rfl, Nat.lt_of_lt_of_le hb hg.size, hn, fun i hi => ?_⟩⟩
        have : u'.cell? ⟨b, off + i, none⟩ = u.cell? ⟨b, off + i, none⟩ := World.cell?_of_block (key b hb (by omega))
        rw [this]; exact hc i hi
  · refine ⟨hg.os.trans h.ex.os, hg.tape.trans h.ex.tape, hg.output.trans h.ex.output, Nat.le_trans h.ex.size hg.size, fun i hi hn => ?_⟩
    rw [key i (Nat.lt_of_lt_of_le hi h.ex.size) (by omega)]
    exact h.ex.block i hi hn
structure FV (w : World) (c : Nat) (a : Option Addr) (len cap : Nat) (v : Value) (m : Nat) (l : List Tm) (u : World) : Prop where
  D : Drawn c a len cap w u
  row : u.ownsRow w.heap.size 132 3 v m (qflat l)
  short : ∀ p, p ∈ l → p.2.2.size ≤ maxLen
theorem rowF_ex {B c : Nat} {u u' : World} {t : TypeId} {v : Value} {m : Nat} {xs : List Value} (h : u.ownsRow B t 3 v m xs) (hx : Ex c u u') (hc : c < B) : u'.ownsRow B t 3 v m xs := by
  refine h.kept (row := some c) hx ?_
  cases e : v.ownBlock with
  | none => exact .inl rfl
  | some q => exact .inr (fun e' => by cases e'; have := (h.lt _ e).1; omega)
theorem FV.draw {w : World} {c : Nat} {a : Option Addr} {len cap : Nat} {v : Value} {m : Nat} {l : List Tm} {u u' : World} (h : FV w c a len cap v m l u) (hd : Drawn c a len cap u u') (hc : c < w.heap.size) : FV w c a len cap v m l u' :=
  ⟨h.D.trans hd, rowF_ex h.row hd.ex hc, h.short⟩
theorem FV.alloc {w : World} {c : Nat} {a : Option Addr} {len cap : Nat} {v : Value} {m : Nat} {l : List Tm} {u : World} (h : FV w c a len cap v m l u) (o : Obj) : FV w c a len cap v m l (u.alloc o) :=
  ⟨h.D.alloc o, h.row.alloc o, h.short⟩
theorem FV.app {w : World} {c : Nat} {a : Option Addr} {len cap : Nat} {v : Value} {m : Nat} {l : List Tm} {u : World} (h : FV w c a len cap v m l u) (hC : Cur c a len cap w) (q : Nat) (news : List Tm) (cs : Array Value) (hI : TmAt (u.alloc (.cells cs 132)) (some ⟨u.heap.size, 0, none⟩) q news) (hs : m + q ≤ 4194304) :
    ∃ (a' : Option Addr) (c' : Nat) (w' : World), (Builtin.append_ #[39, 39] 39 #[v, .slice (some ⟨u.heap.size, 0, none⟩) q q]).run Tryz.prog (u.alloc (.cells cs 132)) = .ok (.slice a' (m + q) c') w' ∧ FV w c a len cap (.slice a' (m + q) c') (m + q) (l ++ news) w' := by
  have hA := h.alloc (.cells cs 132)
  obtain ⟨v', w', hr, ho, hg⟩ := append_tms w.heap.size v m l _ q q news _ hA.row hA.D.ex.size hI hs
  obtain ⟨a', c', rfl⟩ := slice_form ho
  refine ⟨a', c', w', hr, ⟨?_, ho, short_app h.short hI.short⟩⟩
  cases e : v.ownBlock with
  | some g =>
    rw [e] at hg
    exact hA.D.grown hC hg (h.row.lt g e).1
  | none =>
    rw [e] at hg
    have hb : Below (u.alloc (.cells cs 132)).heap.size (u.alloc (.cells cs 132)) w' := ⟨hg.os, hg.tape, hg.output, hg.size, fun k hk => hg.block k hk (by simp)⟩
    exact ⟨hA.D.cur.keep hb, hA.D.ex.trans (Ex.of hb)⟩
theorem new1 (u : World) (t : Tm) (ht : t.2.2.size ≤ maxLen) : TmAt (u.alloc (.cells #[.int .i64 t.1, .int .i64 t.2.1, .string t.2.2] 132)) (some ⟨u.heap.size, 0, none⟩) 1 [t] :=
  ⟨rfl, fun p hp => by simp only [List.mem_singleton] at hp; subst hp; exact ht, .inr ⟨u.heap.size, 0, rfl, by simp, fun i hi => by
    obtain rfl : i = 0 := by omega
    simp [qg]⟩⟩
theorem new2 (u : World) (t t' : Tm) (ht : t.2.2.size ≤ maxLen) (ht' : t'.2.2.size ≤ maxLen) : TmAt (u.alloc (.cells #[.int .i64 t.1, .int .i64 t.2.1, .string t.2.2, .int .i64 t'.1, .int .i64 t'.2.1, .string t'.2.2] 132)) (some ⟨u.heap.size, 0, none⟩) 2 [t, t'] :=
  ⟨rfl, fun p hp => by
    simp only [List.mem_cons, List.not_mem_nil, or_false] at hp
    rcases hp with rfl | rfl
    · exact ht
    · exact ht', .inr ⟨u.heap.size, 0, rfl, by simp, fun i hi => by
    have h : i = 0 ∨ i = 1 := by omega
    rcases h with rfl | rfl
    · simp [qg]
    · simp [qg]⟩⟩
theorem FV.form {w : World} {c : Nat} {a : Option Addr} {len cap : Nat} {v : Value} {m : Nat} {l : List Tm} {u : World} (h : FV w c a len cap v m l u) : ∃ a' c', v = .slice a' m c' := slice_form h.row
theorem small40 {s : ByteArray} (h : s.size ≤ 40) : s.size ≤ maxLen := by unfold maxLen; omega
def FilP (w : World) (c : Nat) (a : Option Addr) (len cap K : Nat) (e : Ending) (w' : World) : Prop := ∃ (a' : Option Addr) (m c' : Nat) (l : List Tm), e = .returned (.slice a' m c') ∧ m ≤ K ∧ FV w c a len cap (.slice a' m c') m l w'
end Go.Proofs.YtihdglmiecifjaaGreat
namespace Go.Proofs.YtihdglmiecifjaaGreat
open Go.RowKit Go.Maps Pl Il
theorem passM_eq {fl : List Tm} {m1 m2 : Int} {m3 : ByteArray} (h1 : okF fl = true) (h2 : okB m1 m2 m3 = true) : passM fl m1 m2 m3 = pasR fl (m1, m2, m3) := by
  unfold passM pasR
  rw [h1, h2]
  rfl
theorem GOk.grown {w w' : World} {q : Option Nat} (h : GOk w) (hg : w.grownBy w' q) (hq : q ≠ some 0) : GOk w' := by
  obtain ⟨m, hm⟩ := h
  have hl : 0 < w.heap.size := by
    rcases Nat.lt_or_ge 0 w.heap.size with h | h
    · exact h
    · unfold World.cell? at hm
      rw [Array.getElem?_eq_none h] at hm
      cases hm
  exact ⟨m, by rw [← hm]; exact World.cell?_of_block (hg.block _ hl (fun e => hq e.symm))⟩
theorem GOk.lt {w : World} (h : GOk w) : 0 < w.heap.size := by
  obtain ⟨m, hm⟩ := h
  rcases Nat.lt_or_ge 0 w.heap.size with h | h
  · exact h
  · unfold World.cell? at hm
    rw [Array.getElem?_eq_none h] at hm
    cases hm
open Go.RowKit Go.Maps Pl Il
def setLL : List Value → Nat → List Value → List Value
  | l, _, [] => l
  | l, o, v :: vs => setLL (l.set o v) (o + 1) vs
theorem setLL_get : ∀ (vs l : List Value) (o i : Nat), o + vs.length ≤ l.length → (setLL l o vs)[i]? = if o ≤ i ∧ i < o + vs.length then vs[i - o]? else l[i]?
  | [], l, o, i, _ => by unfold setLL; rw [if_neg (by simp only [List.length_nil]; omega)]
  | v :: vs, l, o, i, h => by
    unfold setLL
    simp only [List.length_cons] at h ⊢
    rw [setLL_get vs _ (o + 1) i (by simp; omega)]
    by_cases h1 : i = o
    · subst h1
      rw [if_neg (by omega), if_pos (by omega), List.getElem?_set, if_pos rfl, if_pos (by omega), Nat.sub_self]
      rfl
    · by_cases h2 : o + 1 ≤ i ∧ i < o + 1 + vs.length
      · rw [if_pos h2, if_pos (by omega), show i - o = (i - (o + 1)) + 1 by omega, List.getElem?_cons_succ]
      · rw [if_neg h2, if_neg (by omega), List.getElem?_set, if_neg (by omega)]
theorem row_setL {B g n c : Nat} {t : TypeId} {sz : Nat} : ∀ (vs : List Value) (w : World) (o : Nat) (l : List Value), w.ownsRow B t sz (.slice (some ⟨g, 0, none⟩) n c) n l → (setL w g o vs).ownsRow B t sz (.slice (some ⟨g, 0, none⟩) n c) n (setLL l o vs)
  | [], _, _, _, h => h
  | v :: vs, w, o, l, h => by
    unfold setL setLL
    exact row_setL vs _ _ _ (h.stored o v).1
theorem sflat_setS {xs : List Sa} {k : Nat} {x : Sa} (hk : k < xs.length) : setLL (sflat xs) (k * 7) (sC x) = sflat (xs.set k x) := by
  have hl : (sflat xs).length = xs.length * 7 := length_sflat xs
  have hl2 : (sflat (xs.set k x)).length = xs.length * 7 := by rw [length_sflat, List.length_set]
  refine List.ext_getElem? fun i => ?_
  rw [setLL_get _ _ _ _ (by rw [hl]; simp; omega)]
  by_cases hi : i < xs.length * 7
  · have e1 := sflat_at (xs.set k x) (i / 7) (i % 7) (by rw [List.length_set]; omega) (by omega)
    have e2 := sflat_at xs (i / 7) (i % 7) (by omega) (by omega)
    rw [show i / 7 * 7 + i % 7 = i by omega] at e1 e2
    rw [e1]
    have e3 : sg (xs.set k x) (i / 7) = if k = i / 7 then x else sg xs (i / 7) := by
      rw [sg_eq (by rw [List.length_set]; omega), List.getElem_set]
      split
      · rfl
      · rw [sg_eq (by omega)]
    rw [e3]
    by_cases hik : k = i / 7
    · rw [if_pos hik, if_pos (by simp; omega), show i - k * 7 = i % 7 by omega]
    · rw [if_neg hik, if_neg (by simp; omega), e2]
  · rw [if_neg (by simp; omega), List.getElem?_eq_none (by omega), List.getElem?_eq_none (by omega)]
theorem RRow.sub_row {B : Nat} {w : World} {M : Rm} {v : Rv} (h : RRow B w M v) {k : Nat} (hk : k < v.sb.length) : ∃ g, M.sa = some ⟨g, 0, none⟩ ∧ M.s = M.xs.length ∧ k < M.xs.length := by
  have hl : M.xs.length = v.sb.length := by rw [← h.sv]; simp [svs]
  obtain ⟨h1, ⟨e, e0⟩ | ⟨g, cp, cur, e, _⟩⟩ := h.sb
  · rw [e0, length_sflat] at h1; omega
  · injection e with e1
    exact ⟨g, e1, by rw [length_sflat] at h1; omega, by omega⟩
theorem blkR_set {M : Rm} {k : Nat} {s' : Sb} (hk : k < M.xs.length) : blkR { M with xs := M.xs.set k ⟨s', (sg M.xs k).a, (sg M.xs k).n, (sg M.xs k).c⟩ } = blkR M := by
  have e : (M.xs.set k ⟨s', (sg M.xs k).a, (sg M.xs k).n, (sg M.xs k).c⟩).map (fun x => (Value.slice x.a x.n x.c).ownBlock) = M.xs.map fun x => (Value.slice x.a x.n x.c).ownBlock := by
    refine List.ext_getElem (by simp) fun i h1 h2 => ?_
    simp only [List.getElem_map, List.getElem_set]
    split
    · rename_i h'
      subst h'
      rw [sg_eq hk]
    · rfl
  unfold blkR
  simp only
  rw [e]
theorem rowB {B K : Nat} {w w' : World} {t : TypeId} {s : Nat} {v : Value} {n : Nat} {xs : List Value} (h : w.ownsRow B t s v n xs) (hb : Below K w w') (hlt : ∀ q, v.ownBlock = some q → q < K) : w'.ownsRow B t s v n xs := by
  obtain ⟨hl, hn | ⟨g, cap, cur, rfl, hB, hg, hr⟩⟩ := h
  · exact ⟨hl, .inl hn⟩
  · exact ⟨hl, .inr ⟨g, cap, cur, rfl, hB, by rw [hb.block g (hlt g rfl)]; exact hg, hr⟩⟩
theorem RRow.far {B K : Nat} {w w' : World} {M : Rm} {v : Rv} (h : RRow B w M v) (hb : Below K w w') (hlt : ∀ q, some q ∈ blkR M → q < K) : RRow B w' M v :=
  have key : ∀ {u : Value}, u.ownBlock ∈ blkR M → ∀ q, u.ownBlock = some q → q < K := fun {u} hu q e => hlt q (by rw [← e]; exact hu)
  ⟨rowB h.it hb (key (by simp [blkR])), h.its, rowB h.sb hb (key (by simp [blkR])), fun x hx => rowB (h.fl x hx) hb (key (by
    unfold blkR
    exact List.mem_cons_of_mem _ (List.mem_cons_of_mem _ (List.mem_cons_of_mem _ (List.mem_cons_of_mem _ (List.mem_map.2 ⟨x, hx, rfl⟩)))))), h.fls, h.sv, rowB h.ln hb (key (by simp [blkR])), rowB h.gs hb (key (by simp [blkR])), h.apt⟩
theorem RRow.putSub {B : Nat} {w : World} {M : Rm} {v : Rv} {g k : Nat} {s' : Sb} (h : RRow B w M v) (hg : M.sa = some ⟨g, 0, none⟩) (hk : k < M.xs.length) (hf : s'.fl = (sg M.xs k).s.fl) :
    RRow B (setL w g (k * 7) (sC ⟨s', (sg M.xs k).a, (sg M.xs k).n, (sg M.xs k).c⟩)) { M with xs := M.xs.set k ⟨s', (sg M.xs k).a, (sg M.xs k).n, (sg M.xs k).c⟩ } { v with sb := v.sb.set k s' } ∧ w.grownBy (setL w g (k * 7) (sC ⟨s', (sg M.xs k).a, (sg M.xs k).n, (sg M.xs k).c⟩)) (some g) := by
  have hA : AptP _ _ _ _ _ := apt_iff.1 h.apt
  have hsb := h.sb
  rw [hg] at hsb
  have r1 := row_setL (sC ⟨s', (sg M.xs k).a, (sg M.xs k).n, (sg M.xs k).c⟩) w (k * 7) _ hsb
  rw [sflat_setS hk] at r1
  have gr : w.grownBy (setL w g (k * 7) (sC ⟨s', (sg M.xs k).a, (sg M.xs k).n, (sg M.xs k).c⟩)) (some g) := setL_grown ⟨rfl, rfl, rfl, Nat.le_refl _, fun _ _ _ => rfl⟩
  have hb : (Value.slice M.sa M.s M.sc).ownBlock = some g := by rw [hg]; rfl
  have hmem : ∀ x, x ∈ M.xs.set k ⟨s', (sg M.xs k).a, (sg M.xs k).n, (sg M.xs k).c⟩ → ∃ y, y ∈ M.xs ∧ x.a = y.a ∧ x.n = y.n ∧ x.c = y.c ∧ x.s.fl = y.s.fl := fun x hx => by
    rcases List.mem_or_eq_of_mem_set hx with h' | h'
    · exact ⟨x, h', rfl, rfl, rfl, rfl⟩
    · exact ⟨sg M.xs k, sg_mem hk, by rw [h'], by rw [h'], by rw [h'], by rw [h']; exact hf⟩
  refine ⟨⟨rowG h.it gr (fun q e e' => ?_), h.its, by rw [hg]; exact r1, fun x hx => ?_, fun x hx p hp => ?_, ?_, rowG h.ln gr (fun q e e' => ?_), rowG h.gs gr (fun q e e' => ?_), ?_⟩, gr⟩
  · injection e with e; subst e; exact hA.is _ e' hb
  · obtain ⟨y, hy, e1, e2, e3, e4⟩ := hmem x hx
    rw [e1, e2, e3, e4]
    exact rowG (h.fl y hy) gr (fun q e e' => by injection e with e; subst e; exact hA.sx _ (List.mem_map.2 ⟨y, hy, rfl⟩) _ hb e')
  · obtain ⟨y, hy, _, _, _, e4⟩ := hmem x hx
    rw [e4] at hp
    exact h.fls y hy p hp
  · show svs (M.xs.set k _) = v.sb.set k s'
    rw [← h.sv]
    simp only [svs, List.map_set]
  · injection e with e; subst e; exact hA.sl _ hb e'
  · injection e with e; subst e; exact hA.sg _ hb e'
  · rw [blkR_set hk]; exact h.apt
theorem RRow.item {B : Nat} {w : World} {M : Rm} {v : Rv} {i : Nat} (h : RRow B w M v) (hi : i < M.i) : ∃ bi, M.ia = some ⟨bi, 0, none⟩ ∧ v.it.length = M.i ∧ w.cell? ⟨bi, i * 3, none⟩ = some (.int .i64 (qg v.it i).1) ∧ w.cell? ⟨bi, i * 3 + 1, none⟩ = some (.int .i64 (qg v.it i).2.1) ∧ w.cell? ⟨bi, i * 3 + 2, none⟩ = some (.string (qg v.it i).2.2) := by
  obtain ⟨hl, ⟨e, _⟩ | ⟨g', c', cur, e, hB, hg, hc, hm, hs, ht⟩⟩ := h.it
  · have : M.i = 0 := by injection e
    omega
  · injection e with e1 e2 e3
    have hlen : v.it.length = M.i := by rw [length_qflat] at hl; omega
    have key : ∀ r, r < 3 → w.cell? ⟨g', i * 3 + r, none⟩ = (qflat v.it)[i * 3 + r]? := fun r hr => by
      rw [cell_of_row w g' (i * 3 + r) cur _ (0, 0) hg, ← ht, List.getElem?_take_of_lt (by omega), Array.getElem?_toList]
    refine ⟨g', e1, hlen, ?_, ?_, ?_⟩
    · have := key 0 (by omega); rw [qflat_at _ _ _ (by omega) (by omega)] at this; exact this
    · have := key 1 (by omega); rw [qflat_at _ _ _ (by omega) (by omega)] at this; exact this
    · have := key 2 (by omega); rw [qflat_at _ _ _ (by omega) (by omega)] at this; exact this
theorem BoxL.setAll {N : Nat} {vs us : List Value} {w : World} (h : BoxL N vs w) (hl : us.length = vs.length) : BoxL N us (setL w N 0 us) :=
  ⟨by rw [setL_size]; exact h.lt, fun i hi => by
    have k := setL_same (g := N) (vs := us) (w := w) (o := 0) (fun j hj => ⟨_, by rw [Nat.zero_add]; exact h.cs j (by omega)⟩) i hi
    rwa [Nat.zero_add] at k, fun o => by rw [setL_fr]; exact h.fr o⟩
theorem BoxL.setFar {N M o : Nat} {vs us : List Value} {w : World} (h : BoxL N vs w) (hM : N ≠ M) : BoxL N vs (setL w M o us) := h.of_block (setL_block hM) (by rw [setL_size]; exact h.lt)
def RdP (B : Nat) (w : World) (M : Rm) (v : Rv) (k : Nat) (e : Ending) (w' : World) : Prop := ∃ xs' : List Sa, e = .returned (.tuple #[.agg #[.int .i64 v.cp, .int .i64 v.se, .slice M.ia M.i M.ic, .int .i64 v.nx, .slice M.sa M.s M.sc, .slice M.la M.l M.lc, .slice M.ga M.g M.gc, .bool v.cl], .agg #[.int .i64 (readT v (v.sb.getD k Sb0)).kd, .int .i64 (readT v (v.sb.getD k Sb0)).ms.1, .int .i64 (readT v (v.sb.getD k Sb0)).ms.2.1, .string (readT v (v.sb.getD k Sb0)).ms.2.2, .int .i64 (readT v (v.sb.getD k Sb0)).ix, .int .i64 (readT v (v.sb.getD k Sb0)).n], .int .i64 (readC v (v.sb.getD k Sb0))]) ∧ RRow B w' { M with xs := xs' } (rdV v k) ∧ (∀ y, y ∈ xs' → ∃ x, x ∈ M.xs ∧ y.n = x.n) ∧ w.grownBy w' (Value.slice M.sa M.s M.sc).ownBlock ∧ blkR { M with xs := xs' } = blkR M
theorem RdP.mk {B : Nat} {w U w' : World} {M : Rm} {v : Rv} {k g : Nat} {e : Ending} {s' : Sb} {td : Td} {c : Int} (hR : RRow B w M v) (hg : M.sa = some ⟨g, 0, none⟩) (hk : k < M.xs.length) (hwU : Below w.heap.size w U) (hY : Below w.heap.size (setL U g (k * 7) (sC ⟨s', (sg M.xs k).a, (sg M.xs k).n, (sg M.xs k).c⟩)) w') (hf : s'.fl = (sg M.xs k).s.fl) (hs : readS v (v.sb.getD k Sb0) = s') (ht : readT v (v.sb.getD k Sb0) = td) (hc : readC v (v.sb.getD k Sb0) = c)
    (he : e = .returned (.tuple #[.agg #[.int .i64 v.cp, .int .i64 v.se, .slice M.ia M.i M.ic, .int .i64 v.nx, .slice M.sa M.s M.sc, .slice M.la M.l M.lc, .slice M.ga M.g M.gc, .bool v.cl], .agg #[.int .i64 td.kd, .int .i64 td.ms.1, .int .i64 td.ms.2.1, .string td.ms.2.2, .int .i64 td.ix, .int .i64 td.n], .int .i64 c])) : RdP B w M v k e w' := by
  subst ht hc
  have hput := (hR.keep hwU).putSub hg hk hf
  have hrow : RRow B w' { M with xs := M.xs.set k ⟨s', (sg M.xs k).a, (sg M.xs k).n, (sg M.xs k).c⟩ } (rdV v k) := by
    unfold rdV
    rw [hs]
    exact hput.1.far hY fun q hq => by rw [blkR_set hk] at hq; exact (hR.blk q hq).2
  refine ⟨_, he, hrow, fun y hy => ?_, ?_, blkR_set hk⟩
  · rcases List.mem_or_eq_of_mem_set hy with h' | h'
    · exact ⟨y, h', rfl⟩
    · exact ⟨sg M.xs k, sg_mem hk, by rw [h']⟩
  · have hgr := hput.2
    have hbk : (Value.slice M.sa M.s M.sc).ownBlock = some g := by rw [hg]; rfl
    rw [hbk]
    refine ⟨hY.os.trans (hgr.os.trans hwU.os), hY.tape.trans (hgr.tape.trans hwU.tape), hY.output.trans (hgr.output.trans hwU.output), Nat.le_trans hwU.size (Nat.le_trans hgr.size hY.size), fun j hj hne => ?_⟩
    rw [hY.block j hj, hgr.block j (Nat.lt_of_lt_of_le hj hwU.size) hne, hwU.block j hj]
open Go.RowKit Go.Maps Pl Il
theorem RBody.belowB {B b : Nat} {A : Na} {P : Nat → Tm} {f : Nat} {v : Rv} {sa : Option Addr} {s sc : Nat} {ys : List Sa} {u u' : World} {K : Nat} (h : RBody B b A P f v sa s sc ys u) (hb : Below K u u') (hlt : b < K ∧ (∀ q, (Value.slice A.a A.n A.c).ownBlock = some q → q < K) ∧ (∀ q, (Value.slice A.a' A.n' A.c').ownBlock = some q → q < K) ∧ (∀ q, (Value.slice sa s sc).ownBlock = some q → q < K) ∧ ∀ x, x ∈ ys → ∀ q, (Value.slice x.a x.n x.c).ownBlock = some q → q < K) : RBody B b A P f v sa s sc ys u' := by
  obtain ⟨h0, h1, h2, h3, h4⟩ := hlt
  have key := hb.block b h0
  have ct : ∀ j, u'.cell? ⟨b, j, none⟩ = u.cell? ⟨b, j, none⟩ := fun j => World.cell?_of_block key
  refine ⟨⟨Nat.lt_of_lt_of_le h.wst.lt hb.size, h.wst.ge, by rw [ct]; exact h.wst.c0, by rw [ct]; exact h.wst.c1, fun o => by rw [← h.wst.fr o]; exact World.frozen?_of_block key, ⟨rowB h.wst.rows.one hb h1, rowB h.wst.rows.two hb h2, h.wst.rows.ne⟩, h.wst.ne1, h.wst.ne2⟩, ⟨?_, fun j hj => ?_⟩, by rw [ct]; exact h.c2, by rw [ct]; exact h.fst, by rw [ct]; exact h.nxt, by rw [ct]; exact h.c56, by rw [ct]; exact h.c57, by rw [ct]; exact h.c58, ⟨rowB h.srow.sb hb h3, fun x hx => rowB (h.srow.fl x hx) hb (h4 x hx), h.srow.fls, h.srow.apt⟩, h.sv, h.its, h.sh, h.se, h.few, h.nb, h.ap⟩
  · obtain ⟨cur, t, hc, hs1⟩ := h.rnd.blk
    exact ⟨cur, t, by rw [key]; exact hc, hs1⟩
  · obtain ⟨q1, q2, q3⟩ := h.rnd.pl j hj
    exact ⟨by rw [ct]; exact q1, by rw [ct]; exact q2, by rw [ct]; exact q3⟩
theorem RBody.blks {B b : Nat} {A : Na} {P : Nat → Tm} {f : Nat} {v : Rv} {sa : Option Addr} {s sc : Nat} {ys : List Sa} {w : World} (h : RBody B b A P f v sa s sc ys w) : b < w.heap.size ∧ (∀ q, (Value.slice A.a A.n A.c).ownBlock = some q → q < w.heap.size) ∧ (∀ q, (Value.slice A.a' A.n' A.c').ownBlock = some q → q < w.heap.size) ∧ (∀ q, (Value.slice sa s sc).ownBlock = some q → q < w.heap.size) ∧ ∀ x, x ∈ ys → ∀ q, (Value.slice x.a x.n x.c).ownBlock = some q → q < w.heap.size :=
  ⟨h.wst.lt, fun _ e => (row_lt h.wst.rows.one e).2, fun _ e => (row_lt h.wst.rows.two e).2, fun _ e => (row_lt h.srow.sb e).2, fun x hx _ e => (row_lt (h.srow.fl x hx) e).2⟩
abbrev FmS (g k : Nat) (x : Sa) (NM : Nat) (m1 m2 : Int) (m3 : ByteArray) (u : World) : Prop := u.cell? ⟨g, k * 7 + 6, none⟩ = some (.slice x.a x.n x.c) ∧ u.cell? ⟨NM, 0, none⟩ = some (.int .i64 m1) ∧ u.cell? ⟨NM, 1, none⟩ = some (.int .i64 m2) ∧ u.cell? ⟨NM, 2, none⟩ = some (.string m3)
theorem FmS.keep {g k : Nat} {x : Sa} {NM : Nat} {m1 m2 : Int} {m3 : ByteArray} {u u' : World} {K : Nat} (h : FmS g k x NM m1 m2 m3 u) (hb : Below K u u') (hl : g < K ∧ NM < K) : FmS g k x NM m1 m2 m3 u' :=
  ⟨by rw [hb.cell (p := ⟨g, k * 7 + 6, none⟩) hl.1]; exact h.1, by rw [hb.cell (p := ⟨NM, 0, none⟩) hl.2]; exact h.2.1, by rw [hb.cell (p := ⟨NM, 1, none⟩) hl.2]; exact h.2.2.1, by rw [hb.cell (p := ⟨NM, 2, none⟩) hl.2]; exact h.2.2.2⟩
open Go.RowKit Go.Maps Pl Il
theorem rowQ {B : Nat} {w w' : World} {t : TypeId} {s : Nat} {v : Value} {n : Nat} {xs : List Value} (h : w.ownsRow B t s v n xs) (hq : ∀ q, v.ownBlock = some q → w'.heap[q]? = w.heap[q]?) : w'.ownsRow B t s v n xs := by
  obtain ⟨hl, hn | ⟨g, cap, cur, rfl, hB, hg, hr⟩⟩ := h
  · exact ⟨hl, .inl hn⟩
  · exact ⟨hl, .inr ⟨g, cap, cur, rfl, hB, by rw [hq g rfl]; exact hg, hr⟩⟩
end Go.Proofs.YtihdglmiecifjaaGreat
