/-
  The plain mathematics of a right ring: subscribing, leaving, reading, 
  The plain mathematics of sending: who is told, who stays, what goes
  The plain mathematics of a right ring: sending and skipping leave a ri
  The plain mathematics of a right ring: one subscriber after another le
-/
import Derived.Test.YtihdglmiecifjaaGreatZRs21
namespace Go.Proofs.YtihdglmiecifjaaGreat
open Go.RowKit Go.Maps Pl Il
theorem SubP.mono {se nx se' nx' : Int} {s : Sb} (h : SubP se nx s) (hs : se ≤ se') (hn : nx ≤ nx') : SubP se' nx' s :=
  ⟨h.i0, Int.lt_of_lt_of_le h.i1 hn, h.st, h.sc, Int.le_trans h.cu hs, h.gt, h.lo, h.pa, h.su, h.fl⟩
theorem ok_shut {v : Rv} (h : okR restR v = true) : okR restR (shutR v) = true := by
  rw [okR_iff] at h ⊢
  obtain ⟨h, hl⟩ := h
  have hp : (([] : List Int) ++ (v.gs ++ v.ln)).Perm (v.ln ++ v.gs) := by simpa using List.perm_append_comm
  exact ⟨⟨h.cp, h.se, h.nx, h.few, h.sub, h.inc, h.ms, hp.nodup_iff.2 h.nod, fun y hy => h.mem y (hp.mem_iff.1 hy), fun s hs hm => (by cases hm), fun _ => rfl⟩, hl⟩
theorem ok_clo {v : Rv} (h : okR restR v = true) : okR restR (cloR v) = true := by
  unfold cloR
  rw [if_pos h]
  split
  · exact h
  · exact ok_shut h
theorem erase_sub (ln gs : List Int) (id : Int) : (lessL ln id ++ lessL gs id).Sublist (ln ++ gs) := List.Sublist.append List.erase_sublist List.erase_sublist
theorem ok_lessG {v : Rv} (h : okR restR v = true) (id : Int) : okR restR { v with gs := lessL v.gs id } = true := by
  rw [okR_iff] at h ⊢
  obtain ⟨h, hl⟩ := h
  have hs : (v.ln ++ lessL v.gs id).Sublist (v.ln ++ v.gs) := List.Sublist.append (List.Sublist.refl _) List.erase_sublist
  exact ⟨⟨h.cp, h.se, h.nx, h.few, h.sub, h.inc, h.ms, hs.nodup h.nod, fun y hy => h.mem y (hs.subset hy), h.att, h.clo⟩, hl⟩
theorem old_ge_least (v : Rv) : leastR v.se v.sb ≤ oldR v := by
  unfold oldR
  simp only
  split <;> split <;> omega
theorem ok_sbsV {v : Rv} {f : List Tm} (back : Bool) (h : okR restR v = true) (hf : okF f = true) (h12 : v.sb.length < 12) (hn : v.nx < 1000000000) : okR restR (sbsV v f back) = true := by
  rw [okR_iff] at h ⊢
  obtain ⟨h, hl⟩ := h
  have hob := oldR_bd (v := v) h.se.1 h.cp.1
  have hfr : leastR v.se v.sb ≤ fromR v back ∧ 0 ≤ fromR v back ∧ fromR v back ≤ v.se := by
    unfold fromR
    cases back
    · exact ⟨leastR_le _ _, h.se.1, Int.le_refl _⟩
    · exact ⟨old_ge_least v, hob⟩
  have hlt : ∀ s, s ∈ v.sb → s.id < v.nx := fun s hs => (h.sub s hs).i1
  have hold : oldR (sbsV v f back) = oldR v := by
    have e : leastR v.se (v.sb ++ [newS v (fromR v back) f]) = leastR v.se v.sb := by
      rw [leastR_snoc, if_neg]
      show ¬ fromR v back < _
      omega
    unfold oldR sbsV
    simp only [e]
  rw [hold]
  refine ⟨⟨h.cp, h.se, ⟨?_, ?_⟩, ?_, fun s hs => ?_, ?_, h.ms, h.nod, fun y hy => ?_, fun s hs hm => ?_, h.clo⟩, hl⟩
  · have := h.nx.1; show 0 ≤ v.nx + 1; omega
  · show v.nx + 1 ≤ _; omega
  · show (v.sb ++ [_]).length ≤ 12; rw [List.length_append, List.length_singleton]; omega
  · rcases List.mem_append.1 hs with hs | hs
    · exact (h.sub s hs).mono (Int.le_refl _) (by show v.nx ≤ v.nx + 1; omega)
    · obtain rfl : s = newS v (fromR v back) f := by simpa using hs
      exact ⟨h.nx.1, by show v.nx < v.nx + 1; omega, hfr.2.1, Int.le_refl _, hfr.2.2, Int.le_refl _, Int.le_refl _, Int.le_refl _, by show (0 : Int) + 0 + 0 = fromR v back - fromR v back; omega, hf⟩
  · show ((v.sb ++ [newS v (fromR v back) f]).map (·.id)).Pairwise (· < ·)
    rw [List.map_append, List.pairwise_append]
    refine ⟨h.inc, by simp, fun a ha b hb => ?_⟩
    obtain ⟨s, hs, rfl⟩ := List.mem_map.1 ha
    obtain rfl : b = v.nx := by simpa [newS] using hb
    exact hlt s hs
  · show y ∈ (v.sb ++ [newS v (fromR v back) f]).map (·.id)
    rw [List.map_append]
    exact List.mem_append.2 (.inl (h.mem y hy))
  · rcases List.mem_append.1 hs with hs | hs
    · exact h.att s hs hm
    · obtain rfl : s = newS v (fromR v back) f := by simpa using hs
      obtain ⟨t, ht, e⟩ := List.mem_map.1 (h.mem _ (List.mem_append.2 (.inl hm)))
      have h1 := hlt t ht
      rw [e] at h1
      exact absurd h1 (Int.lt_irrefl _)
theorem ok_sbs {v : Rv} (f : List Tm) (back : Bool) (h : okR restR v = true) : okR restR (sbsR v f back) = true := by
  unfold sbsR
  split
  · rename_i hc
    unfold sbsC at hc
    split at hc
    · rename_i h1
      split at hc
      · omega
      · split at hc
        · omega
        · rename_i h3
          exact ok_sbsV back h h1.2 (by omega) (by omega)
    · omega
  · exact h
theorem ok_drop {v : Rv} (h : okR restR v = true) {k : Nat} (hk : k < v.sb.length) : okR restR (trimR (dropV v (v.sb.getD k Sb0).id k)) = true := by
  rw [okR_iff] at h
  obtain ⟨h, hl⟩ := h
  have hs := erase_sub v.ln v.gs (v.sb.getD k Sb0).id
  refine ok_trim ⟨h.cp, h.se, h.nx, ?_, fun s hs => h.sub s (List.mem_of_mem_eraseIdx hs), ?_, h.ms, hs.nodup h.nod, fun y hy => ?_, fun s hs hm => h.att s (List.mem_of_mem_eraseIdx hs) (List.mem_of_mem_erase hm), fun hc => (by show v.ln.erase _ = []; rw [h.clo hc]; rfl)⟩ ?_
  · have h1 := h.few
    show (v.sb.eraseIdx k).length ≤ 12
    rw [List.length_eraseIdx]
    split <;> omega
  · exact List.Pairwise.sublist ((List.eraseIdx_sublist v.sb k).map _) h.inc
  · have hne : y ≠ (v.sb.getD k Sb0).id := by
      have hn := h.nod
      rw [List.nodup_append] at hn
      rintro rfl
      rcases List.mem_append.1 hy with hy | hy
      · exact (List.Nodup.not_mem_erase hn.1) hy
      · exact (List.Nodup.not_mem_erase hn.2.1) hy
    obtain ⟨t, ht, rfl⟩ := List.mem_map.1 (h.mem y (hs.subset hy))
    obtain ⟨j, hj, rfl⟩ := sb_idx ht
    refine List.mem_map.2 ⟨v.sb.getD j Sb0, ?_, rfl⟩
    show _ ∈ v.sb.eraseIdx k
    rw [List.mem_eraseIdx_iff_getElem]
    exact ⟨j, hj, by rintro rfl; exact hne rfl, by rw [get_sb hj]⟩
  · have h1 := drop_old v (v.sb.getD k Sb0).id k
    show v.se - _ ≤ (v.it.length : Int)
    omega
theorem ok_uns {v : Rv} (h : okR restR v = true) (id : Int) : okR restR (unsR v id) = true := by
  unfold unsR
  rw [if_pos h]
  split
  · exact h
  · rename_i h1
    obtain ⟨h2, h3⟩ := at_id2 (show 0 ≤ atR v.sb id by omega)
    have := ok_drop h h2
    rw [h3] at this
    exact this
theorem set_ids {sb : List Sb} {k : Nat} {s : Sb} (hk : k < sb.length) (e : s.id = (sb.getD k Sb0).id) : (sb.set k s).map (·.id) = sb.map (·.id) := by
  rw [List.map_set, e, get_sb hk]
  refine List.ext_getElem (by simp) fun i h1 h2 => ?_
  rw [List.getElem_set]
  split
  · subst_vars; simp
  · rfl
theorem ok_set {v : Rv} (h : okR restR v = true) {k : Nat} (hk : k < v.sb.length) {s : Sb} (hp : SubP v.se v.nx s) (hi : s.id = (v.sb.getD k Sb0).id) (hl : (v.sb.getD k Sb0).id ∉ v.ln) : OkW { v with sb := v.sb.set k s } := by
  rw [okR_iff] at h
  obtain ⟨h, _⟩ := h
  refine ⟨h.cp, h.se, h.nx, by show (v.sb.set k s).length ≤ 12; rw [List.length_set]; exact h.few, fun t ht => ?_, ?_, h.ms, h.nod, fun y hy => ?_, fun t ht hm => ?_, h.clo⟩
  · rcases List.mem_or_eq_of_mem_set ht with h' | h'
    · exact h.sub t h'
    · rw [h']; exact hp
  · show ((v.sb.set k s).map (·.id)).Pairwise (· < ·)
    rw [set_ids hk hi]
    exact h.inc
  · show y ∈ (v.sb.set k s).map (·.id)
    rw [set_ids hk hi]
    exact h.mem y hy
  · rcases List.mem_or_eq_of_mem_set ht with h' | h'
    · exact h.att t h' hm
    · rw [h', hi] at hm
      exact absurd hm hl
theorem read_sub {v : Rv} {k : Nat} (h : okR restR v = true) (hk : k < v.sb.length) : SubP v.se v.nx (readS v (v.sb.getD k Sb0)) := by
  have hr := read_nm (ok_rd h hk)
  obtain ⟨h1, h2, h3, h4, h5, h6, h7, h8, h9⟩ := hr
  rw [okR_iff] at h
  have hs := h.1.sub _ (get_sbm hk)
  have := hs.st
  have := hs.sc
  exact ⟨by rw [h3]; exact hs.i0, by rw [h3]; exact hs.i1, by rw [h2]; exact hs.st, by rw [h2]; omega, h5, h6, h7, h8, h9, by rw [h4]; exact hs.fl⟩
theorem ok_wait {v : Rv} (h : okR restR v = true) {k : Nat} (hk : k < v.sb.length) (hl : (v.sb.getD k Sb0).id ∉ v.ln) (hg : (v.sb.getD k Sb0).id ∉ v.gs) : okR restR (trimR (waitV v k (v.sb.getD k Sb0).id)) = true := by
  have hrd := ok_rd h hk
  have hr := read_nm hrd
  have hp := read_sub h hk
  have hW : OkW (rdV v k) := ok_set h hk hp hr.2.2.1 hl
  have ho := rd_old hrd
  have h' := h
  rw [okR_iff] at h'
  have hlen := h'.2
  unfold waitV
  split
  · rename_i hc
    have hcu : (readS v (v.sb.getD k Sb0)).cu = v.se ∧ ¬ v.cl = true := by
      unfold readC at hc
      split at hc
      · omega
      · rename_i hg0
        split at hc
        · omega
        · rename_i hs
          split at hc
          · omega
          · rename_i hcl
            refine ⟨?_, hcl⟩
            have ht := tail_len hrd hg0
            have hsk := skip_le (v.sb.getD k Sb0).fl (tailR v (v.sb.getD k Sb0))
            unfold readS
            rw [if_neg hg0, if_neg hs]
            show (v.sb.getD k Sb0).cu + _ = v.se
            omega
    refine ok_trim (v := { rdV v k with ln := v.ln ++ [(v.sb.getD k Sb0).id] }) ⟨hW.cp, hW.se, hW.nx, hW.few, hW.sub, hW.inc, hW.ms, ?_, fun y hy => ?_, fun s hs hm => ?_, fun hcl => absurd hcl hcu.2⟩ ?_
    · have hn := hW.nod
      have hperm : ((v.ln ++ [(v.sb.getD k Sb0).id]) ++ v.gs).Perm ((v.sb.getD k Sb0).id :: (v.ln ++ v.gs)) := by
        rw [List.append_assoc]
        exact List.perm_middle
      refine hperm.nodup_iff.2 (List.nodup_cons.2 ⟨fun hm => ?_, hn⟩)
      rcases List.mem_append.1 hm with hm | hm
      · exact hl hm
      · exact hg hm
    · have hy' : y ∈ (v.ln ++ [(v.sb.getD k Sb0).id]) ++ v.gs := hy
      simp only [List.mem_append, List.mem_singleton] at hy'
      rcases hy' with (hy' | hy') | hy'
      · exact hW.mem y (List.mem_append.2 (.inl hy'))
      · rw [hy']
        show _ ∈ (v.sb.set k _).map (·.id)
        rw [set_ids hk hr.2.2.1]
        exact List.mem_map.2 ⟨_, get_sbm hk, rfl⟩
      · exact hW.mem y (List.mem_append.2 (.inr hy'))
    · have hm' : s.id ∈ v.ln ++ [(v.sb.getD k Sb0).id] := hm
      rcases List.mem_append.1 hm' with hm' | hm'
      · exact hW.att s hs hm'
      · have e : s.id = (v.sb.getD k Sb0).id := by simpa using hm'
        have e2 : s = readS v (v.sb.getD k Sb0) := inc_one hW.inc hs (by
          have h1 := get_sbm (sb := v.sb.set k (readS v (v.sb.getD k Sb0))) (k := k) (by rw [List.length_set]; exact hk)
          rw [set_getD hk] at h1
          exact h1) (by rw [e, hr.2.2.1])
        rw [e2]
        exact hcu.1
    · show v.se - oldR (rdV v k) ≤ (v.it.length : Int)
      omega
  · refine ok_trim hW ?_
    show v.se - oldR (rdV v k) ≤ (v.it.length : Int)
    omega
theorem not_has {xs : List Int} {x : Int} (h : ¬ hasL xs x = true) : x ∉ xs := by simpa [hasL] using h
theorem ok_rec {v : Rv} (h : okR restR v = true) (id : Int) : okR restR (recG v id) = true := by
  unfold recG
  rw [if_pos h]
  split
  · exact h
  · rename_i h1
    split
    · exact h
    · rename_i h2
      obtain ⟨h3, h4⟩ := at_id2 (show 0 ≤ atR v.sb id by omega)
      simp only [Bool.or_eq_true, not_or] at h2
      have := ok_wait h h3 (by rw [h4]; exact not_has h2.1) (by rw [h4]; exact not_has h2.2)
      rw [h4] at this
      exact this
theorem ok_pro {v : Rv} (h : okR restR v = true) (id : Int) : okR restR (proG v id) = true := by
  unfold proG
  rw [if_pos h]
  split
  · exact h
  · rename_i h1
    split
    · rename_i h2
      have h' := h
      rw [okR_iff] at h'
      have hm : id ∈ v.gs := by simpa [hasL] using h2
      obtain ⟨h3, h4⟩ := at_id2 (at_mem (h'.1.mem id (List.mem_append.2 (.inr hm))))
      have hn := h'.1.nod
      rw [List.nodup_append] at hn
      have := ok_wait (v := { v with gs := lessL v.gs id }) (ok_lessG h id) h3 (by show (v.sb.getD _ Sb0).id ∉ v.ln; rw [h4]; exact not_has h1) (by show (v.sb.getD _ Sb0).id ∉ v.gs.erase id; rw [h4]; exact List.Nodup.not_mem_erase hn.2.1)
      have e : (v.sb.getD (atR v.sb id).toNat Sb0).id = id := h4
      simp only [e] at this
      exact this
    · exact h
open Go.RowKit Go.Maps Pl Il
def flAt (sb : List Sb) (id : Int) : List Tm := (sb.getD (atR sb id).toNat Sb0).fl
def bump (sb : List Sb) (k : Nat) : List Sb := sb.set k (passS (sb.getD k Sb0) 1)
theorem bump_len (sb : List Sb) (k : Nat) : (bump sb k).length = sb.length := by simp [bump]
theorem bump_get (sb : List Sb) (k j : Nat) (hj : j < sb.length) : (bump sb k).getD j Sb0 = if k = j then passS (sb.getD j Sb0) 1 else sb.getD j Sb0 := by
  unfold bump
  rw [List.getD_eq_getElem?_getD, List.getElem?_set]
  by_cases h : k = j
  · subst h
    rw [if_pos rfl, if_pos hj, if_pos rfl]
    rfl
  · rw [if_neg h, if_neg h, ← List.getD_eq_getElem?_getD]
theorem bump_ids (sb : List Sb) (k : Nat) : (bump sb k).map (·.id) = sb.map (·.id) := by
  refine List.ext_getElem (by simp [bump]) fun i h1 h2 => ?_
  have hi : i < sb.length := by simpa using h2
  simp only [bump, List.getElem_map, List.getElem_set]
  split
  · rename_i h
    subst h
    rw [List.getD, List.getElem?_eq_getElem hi, Option.getD_some]
    rfl
  · rfl
theorem atR_ids {sb sb' : List Sb} (h : sb'.map (·.id) = sb.map (·.id)) (id : Int) : atR sb' id = atR sb id := by
  have key : ∀ l : List Sb, l.findIdx? (fun s => s.id == id) = (l.map (·.id)).findIdx? (fun x => x == id) := fun l => by
    rw [List.findIdx?_map]
    rfl
  unfold atR
  rw [key, key, h]
def sndT (sb : List Sb) (m : Tm) (l : List Int) : List Int := l.filter fun id => pasR (flAt sb id) m
def sndS (sb : List Sb) (m : Tm) (l : List Int) : List Int := l.filter fun id => !pasR (flAt sb id) m
def sndB (sb : List Sb) (m : Tm) (l : List Int) : List Sb := l.foldl (fun s id => if pasR (flAt sb id) m = true then s else bump s (atR sb id).toNat) sb
theorem sndT_snoc (sb : List Sb) (m : Tm) (l : List Int) (id : Int) : sndT sb m (l ++ [id]) = if pasR (flAt sb id) m = true then sndT sb m l ++ [id] else sndT sb m l := by
  unfold sndT
  rw [List.filter_append]
  by_cases h : pasR (flAt sb id) m = true
  · rw [if_pos h]; simp [h]
  · rw [if_neg h]; simp [h]
theorem sndS_snoc (sb : List Sb) (m : Tm) (l : List Int) (id : Int) : sndS sb m (l ++ [id]) = if pasR (flAt sb id) m = true then sndS sb m l else sndS sb m l ++ [id] := by
  unfold sndS
  rw [List.filter_append]
  by_cases h : pasR (flAt sb id) m = true
  · rw [if_pos h]; simp [h]
  · rw [if_neg h]; simp [h]
theorem sndB_snoc (sb : List Sb) (m : Tm) (l : List Int) (id : Int) : sndB sb m (l ++ [id]) = if pasR (flAt sb id) m = true then sndB sb m l else bump (sndB sb m l) (atR sb id).toNat := by
  unfold sndB
  rw [List.foldl_append]
  rfl
theorem sndB_len (sb : List Sb) (m : Tm) : ∀ l : List Int, (sndB sb m l).length = sb.length := by
  suffices h : ∀ (l : List Int) (s : List Sb), (l.foldl (fun s id => if pasR (flAt sb id) m = true then s else bump s (atR sb id).toNat) s).length = s.length from fun l => h l sb
  intro l
  induction l with
  | nil => intro s; rfl
  | cons id l ih =>
    intro s
    rw [List.foldl_cons, ih]
    split
    · rfl
    · exact bump_len _ _
theorem sndB_ids (sb : List Sb) (m : Tm) : ∀ l : List Int, (sndB sb m l).map (·.id) = sb.map (·.id) := by
  suffices h : ∀ (l : List Int) (s : List Sb), (l.foldl (fun s id => if pasR (flAt sb id) m = true then s else bump s (atR sb id).toNat) s).map (·.id) = s.map (·.id) from fun l => h l sb
  intro l
  induction l with
  | nil => intro s; rfl
  | cons id l ih =>
    intro s
    rw [List.foldl_cons, ih]
    split
    · rfl
    · exact bump_ids _ _
theorem sndB_cu (sb : List Sb) (m : Tm) (x : Int) (h : ∀ s, s ∈ sb → x ≤ s.cu) : ∀ l : List Int, ∀ s, s ∈ sndB sb m l → x ≤ s.cu := by
  suffices h' : ∀ (l : List Int) (t : List Sb), (∀ s, s ∈ t → x ≤ s.cu) → 0 ≤ (1 : Int) → (∀ id, id ∈ l → (atR sb id).toNat < t.length ∨ pasR (flAt sb id) m = true ∨ True) → ∀ s, s ∈ l.foldl (fun s id => if pasR (flAt sb id) m = true then s else bump s (atR sb id).toNat) t → x ≤ s.cu from fun l => h' l sb h (by omega) (fun _ _ => .inr (.inr trivial))
  intro l
  induction l with
  | nil => intro t ht _ _; exact ht
  | cons id l ih =>
    intro t ht h1 _
    rw [List.foldl_cons]
    refine ih _ ?_ h1 (fun _ _ => .inr (.inr trivial))
    split
    · exact ht
    · intro s hs
      by_cases hk : (atR sb id).toNat < t.length
      · rcases List.mem_or_eq_of_mem_set hs with h2 | h2
        · exact ht s h2
        · have h3 : t.getD (atR sb id).toNat Sb0 ∈ t := by
            rw [List.getD, List.getElem?_eq_getElem hk, Option.getD_some]; exact List.getElem_mem _
          have h4 := ht _ h3
          rw [h2]
          show x ≤ (t.getD (atR sb id).toNat Sb0).cu + 1
          omega
      · unfold bump at hs
        rw [List.set_eq_of_length_le (by omega)] at hs
        exact ht s hs
def sndV (v : Rv) (m : Tm) : Rv := ⟨v.cp, v.se + 1, v.it ++ [m], v.nx, sndB v.sb m v.ln, sndS v.sb m v.ln, v.gs ++ sndT v.sb m v.ln, v.cl⟩
theorem snd_old {v : Rv} {m : Tm} : oldR v ≤ oldR (sndV v m) := by
  have hl := (least_iff v.sb v.se (leastR v.se v.sb)).1 (Int.le_refl _)
  have h1 : leastR v.se v.sb ≤ leastR (v.se + 1) (sndB v.sb m v.ln) := by
    rw [least_iff]
    exact ⟨by omega, sndB_cu v.sb m _ hl.2 v.ln⟩
  unfold oldR
  simp only [sndV]
  repeat' split
  all_goals omega
theorem snd_first {v : Rv} (h : okR restR v = true) {m : Tm} {f : Nat} (hf : v.se = ((f + v.it.length : Nat) : Int)) : ∃ d : Nat, d ≤ v.it.length + 1 ∧ oldR (sndV v m) = ((f + d : Nat) : Int) ∧ trimR (sndV v m) = { sndV v m with it := (v.it ++ [m]).drop d } := by
  obtain ⟨hcp, hse, _, h16, hlen, _⟩ := ok_head h
  have h1 := snd_old (v := v) (m := m)
  have h2 := oldR_bd (v := sndV v m) (by show 0 ≤ v.se + 1; omega) hcp.1
  have e1 : (sndV v m).se = v.se + 1 := rfl
  have e2 : (sndV v m).it = v.it ++ [m] := rfl
  have e3 : (v.it ++ [m]).length = v.it.length + 1 := by simp
  rw [e1] at h2
  obtain ⟨d, hd⟩ : ∃ d : Nat, oldR (sndV v m) = ((f + d : Nat) : Int) := ⟨(oldR (sndV v m) - f).toNat, by omega⟩
  refine ⟨d, by omega, hd, ?_⟩
  unfold trimR
  rw [e1, e2, e3]
  by_cases h0 : d = 0
  · subst h0
    rw [if_neg (by omega), List.drop_zero]
    rfl
  · rw [if_pos (by omega), show v.it.length + 1 - (v.se + 1 - oldR (sndV v m)).toNat = d by omega]
    first | done | rfl
def snR (v : Rv) (m : Tm) : Rv := if okR restR v = true then (if v.cl = true then v else if okB m.1 m.2.1 m.2.2 = true then (if v.se = 1000000000 then v else trimR (sndV v m)) else v) else v
def snT (v : Rv) (m : Tm) : List Int := if okR restR v = true then (if v.cl = true then [] else if okB m.1 m.2.1 m.2.2 = true then (if v.se = 1000000000 then [] else sndT v.sb m v.ln) else []) else []
def snC (v : Rv) (m : Tm) : Int := if okR restR v = true then (if v.cl = true then 6 else if okB m.1 m.2.1 m.2.2 = true then (if v.se = 1000000000 then 2 else 0) else 1) else 1
def SendDoneS (F : Nat) : Prop := ∀ (M : Rm) (v : Rv) (m : Tm) (w : World), RIn w M v → RLe M 1048576 → RCap M → RWf v → m.2.2.size ≤ maxLen → GOk w →
  Calls Tryz.prog F #[.agg #[.int .i64 v.cp, .int .i64 v.se, .slice M.ia M.i M.ic, .int .i64 v.nx, .slice M.sa M.s M.sc, .slice M.la M.l M.lc, .slice M.ga M.g M.gc, .bool v.cl], .agg #[.int .i64 m.1, .int .i64 m.2.1, .string m.2.2]] w fun e w' => RgTS w (snR v m) (snT v m) (snC v m) e w'
open Go.RowKit Go.Maps Pl Il
theorem fl_at {sb : List Sb} (hi : (sb.map (·.id)).Pairwise (· < ·)) {j : Nat} (hj : j < sb.length) : flAt sb (sb.getD j Sb0).id = (sb.getD j Sb0).fl := by
  unfold flAt
  rw [at_of hi hj, Int.toNat_natCast]
theorem snd_get {sb : List Sb} (hi : (sb.map (·.id)).Pairwise (· < ·)) (m : Tm) : ∀ (l : List Int) (t : List Sb), t.length = sb.length → l.Nodup → (∀ y, y ∈ l → y ∈ sb.map (·.id)) → ∀ j, j < sb.length →
    (l.foldl (fun s id => if pasR (flAt sb id) m = true then s else bump s (atR sb id).toNat) t).getD j Sb0 = if (sb.getD j Sb0).id ∈ l ∧ pasR (sb.getD j Sb0).fl m = false then passS (t.getD j Sb0) 1 else t.getD j Sb0
  | [], t, _, _, _, j, _ => by rw [if_neg (by simp)]; rfl
  | id :: l, t, ht, hn, hm, j, hj => by
    rw [List.nodup_cons] at hn
    rw [List.foldl_cons]
    obtain ⟨h3, h4⟩ := at_id2 (at_mem (hm id (List.mem_cons_self ..)))
    have hfl : flAt sb id = (sb.getD (atR sb id).toNat Sb0).fl := rfl
    have hl' : (if pasR (flAt sb id) m = true then t else bump t (atR sb id).toNat).length = sb.length := by
      split
      · exact ht
      · rw [bump_len, ht]
    rw [snd_get hi m l _ hl' hn.2 (fun y hy => hm y (List.mem_cons_of_mem _ hy)) j hj]
    by_cases e : (sb.getD j Sb0).id = id
    · have ej : (atR sb id).toNat = j := inc_eq hi h3 hj (by rw [h4, e])
      rw [if_neg (show ¬ ((sb.getD j Sb0).id ∈ l ∧ _) from fun hh => hn.1 (by rw [← e]; exact hh.1)), hfl, ej]
      cases hp : pasR (sb.getD j Sb0).fl m
      · rw [if_neg (by simp), if_pos ⟨by rw [e]; exact List.mem_cons_self .., rfl⟩, bump_get _ _ _ (by omega), if_pos rfl]
      · rw [if_pos rfl, if_neg (by simp)]
    · have ne : ¬ (atR sb id).toNat = j := fun k => e (by rw [← k]; exact h4)
      have hb : (if pasR (flAt sb id) m = true then t else bump t (atR sb id).toNat).getD j Sb0 = t.getD j Sb0 := by
        split
        · rfl
        · rw [bump_get _ _ _ (by omega), if_neg ne]
      rw [hb]
      have hiff : ((sb.getD j Sb0).id ∈ l ∧ pasR (sb.getD j Sb0).fl m = false) ↔ ((sb.getD j Sb0).id ∈ id :: l ∧ pasR (sb.getD j Sb0).fl m = false) := by
        rw [List.mem_cons]
        exact ⟨fun h => ⟨.inr h.1, h.2⟩, fun h => ⟨h.1.resolve_left e, h.2⟩⟩
      by_cases hh : (sb.getD j Sb0).id ∈ l ∧ pasR (sb.getD j Sb0).fl m = false
      · rw [if_pos hh, if_pos (hiff.1 hh)]
      · rw [if_neg hh, if_neg (fun k => hh (hiff.2 k))]
theorem ok_sndV {v : Rv} {m : Tm} (h : okR restR v = true) (hc : ¬ v.cl = true) (hm : okB m.1 m.2.1 m.2.2 = true) (hs : ¬ v.se = 1000000000) : okR restR (trimR (sndV v m)) = true := by
 rw [okR_iff] at h
 obtain ⟨h, hl⟩ := h
 have ho := snd_old (v := v) (m := m)
 have hnl : v.ln.Nodup := by have := h.nod; rw [List.nodup_append] at this; exact this.1
 have hml : ∀ y, y ∈ v.ln → y ∈ v.sb.map (·.id) := fun y hy => h.mem y (List.mem_append.2 (.inl hy))
 have hlen : (sndB v.sb m v.ln).length = v.sb.length := sndB_len _ _ _
 have hget : ∀ j, j < v.sb.length → (sndB v.sb m v.ln).getD j Sb0 = if (v.sb.getD j Sb0).id ∈ v.ln ∧ pasR (v.sb.getD j Sb0).fl m = false then passS (v.sb.getD j Sb0) 1 else v.sb.getD j Sb0 := fun j hj => snd_get h.inc m v.ln v.sb rfl hnl hml j hj
 have hids : (sndB v.sb m v.ln).map (·.id) = v.sb.map (·.id) := sndB_ids _ _ _
 have hperm : (sndS v.sb m v.ln ++ (v.gs ++ sndT v.sb m v.ln)).Perm (v.ln ++ v.gs) := by
  have h1 : (sndT v.sb m v.ln ++ sndS v.sb m v.ln).Perm v.ln := List.filter_append_perm _ _
  have h2 : (sndS v.sb m v.ln ++ (v.gs ++ sndT v.sb m v.ln)).Perm ((sndT v.sb m v.ln ++ sndS v.sb m v.ln) ++ v.gs) := by
   rw [← List.append_assoc]
   refine (List.perm_append_comm).trans ?_
   rw [List.append_assoc]
  exact h2.trans (h1.append_right _)
 refine ok_trim ⟨h.cp, ⟨?_, ?_⟩, h.nx, by show (sndB _ _ _).length ≤ 12; rw [hlen]; exact h.few, fun s hs' => ?_, by show ((sndB _ _ _).map (·.id)).Pairwise _; rw [hids]; exact h.inc, fun x hx => ?_, hperm.nodup_iff.2 h.nod, fun y hy => ?_, fun s hs' hm' => ?_, fun k => absurd k hc⟩ ?_
 ·have := h.se.1; show 0 ≤ v.se + 1; omega
 ·have := h.se.2; show v.se + 1 ≤ 1000000000; omega
 ·obtain ⟨j, hj, rfl⟩ := sb_idx hs'
  change j < (sndB v.sb m v.ln).length at hj
  rw [hlen] at hj
  have hp := h.sub _ (get_sbm hj)
  show SubP (v.se + 1) v.nx ((sndB v.sb m v.ln).getD j Sb0)
  rw [hget j hj]
  split
  ·rename_i hh
   have hcu := h.att _ (get_sbm hj) hh.1
   have := hp.sc
   have := hp.su
   have := hp.pa
   exact ⟨hp.i0, hp.i1, hp.st, by show (v.sb.getD j Sb0).st ≤ (v.sb.getD j Sb0).cu + 1; omega, by show (v.sb.getD j Sb0).cu + 1 ≤ v.se + 1; omega, hp.gt, hp.lo, by show 0 ≤ (v.sb.getD j Sb0).pa + 1; omega, by show (v.sb.getD j Sb0).gt + (v.sb.getD j Sb0).lo + ((v.sb.getD j Sb0).pa + 1) = (v.sb.getD j Sb0).cu + 1 - (v.sb.getD j Sb0).st; omega, hp.fl⟩
  ·exact hp.mono (by omega) (Int.le_refl _)
 ·rcases List.mem_append.1 hx with hx | hx
  ·exact h.ms x hx
  ·rw [List.mem_singleton.1 hx]; exact hm
 ·show y ∈ (sndB v.sb m v.ln).map (·.id)
  rw [hids]
  exact h.mem y (hperm.mem_iff.1 hy)
 ·obtain ⟨j, hj, rfl⟩ := sb_idx hs'
  change j < (sndB v.sb m v.ln).length at hj
  rw [hlen] at hj
  change ((sndB v.sb m v.ln).getD j Sb0).id ∈ sndS v.sb m v.ln at hm'
  show ((sndB v.sb m v.ln).getD j Sb0).cu = v.se + 1
  have hid : ((sndB v.sb m v.ln).getD j Sb0).id = (v.sb.getD j Sb0).id := by rw [hget j hj]; split <;> rfl
  rw [hid] at hm'
  unfold sndS at hm'
  rw [List.mem_filter, fl_at h.inc hj] at hm'
  have hcu := h.att _ (get_sbm hj) hm'.1
  rw [hget j hj, if_pos ⟨hm'.1, by simpa using hm'.2⟩]
  show (v.sb.getD j Sb0).cu + 1 = _
  omega
 ·show v.se + 1 - oldR (sndV v m) ≤ ((v.it ++ [m]).length : Int)
  rw [List.length_append, List.length_singleton]
  omega
theorem ok_snd {v : Rv} (h : okR restR v = true) (m : Tm) : okR restR (snR v m) = true := by
  unfold snR
  rw [if_pos h]
  split
  · exact h
  · rename_i h1
    split
    · rename_i h2
      split
      · exact h
      · rename_i h3
        exact ok_sndV h h1 h2 h3
    · exact h
theorem skip_set (v : Rv) (k : Nat) (num : Int) (hk : k < v.sb.length) : skipV v k num = { v with sb := v.sb.set k ⟨(v.sb.getD k Sb0).id, (v.sb.getD k Sb0).st, num, (v.sb.getD k Sb0).gt, (v.sb.getD k Sb0).lo + goneS v (v.sb.getD k Sb0) num, (v.sb.getD k Sb0).pa + (num - (v.sb.getD k Sb0).cu - goneS v (v.sb.getD k Sb0) num), (v.sb.getD k Sb0).fl⟩ } := by
  unfold skipV
  rw [show putV (putV (putV v.sb k 4 ((v.sb.getD k Sb0).lo + goneS v (v.sb.getD k Sb0) num)) k 5 ((v.sb.getD k Sb0).pa + (num - (v.sb.getD k Sb0).cu - goneS v (v.sb.getD k Sb0) num))) k 2 num = v.sb.set k ⟨(v.sb.getD k Sb0).id, (v.sb.getD k Sb0).st, num, (v.sb.getD k Sb0).gt, (v.sb.getD k Sb0).lo + goneS v (v.sb.getD k Sb0) num, (v.sb.getD k Sb0).pa + (num - (v.sb.getD k Sb0).cu - goneS v (v.sb.getD k Sb0) num), (v.sb.getD k Sb0).fl⟩ from ?_]
  rw [putV_set0 (sb := v.sb), putV_set hk, putV_set hk]
  rfl
theorem gone_le {v : Rv} {s : Sb} {num : Int} (h : s.cu ≤ num) : 0 ≤ goneS v s num ∧ goneS v s num ≤ num - s.cu := by
  unfold goneS
  split <;> split <;> omega
theorem ok_skipV {v : Rv} (h : okR restR v = true) {k : Nat} {num : Int} (hk : k < v.sb.length) (h1 : (v.sb.getD k Sb0).cu ≤ num) (h2 : num ≤ v.se) (hl : (v.sb.getD k Sb0).id ∉ v.ln) : okR restR (trimR (skipV v k num)) = true := by
  have ho := skip_old (v := v) hk h1
  have h' := h
  rw [okR_iff] at h'
  have hp := h'.1.sub _ (get_sbm hk)
  have hg := gone_le (v := v) h1
  have hsc := hp.sc
  have hsu := hp.su
  have hpa := hp.pa
  have hlo := hp.lo
  have hlen := h'.2
  rw [skip_set v k num hk] at ho ⊢
  refine ok_trim (ok_set h hk ⟨hp.i0, hp.i1, hp.st, ?_, h2, hp.gt, ?_, ?_, ?_, hp.fl⟩ rfl hl) ?_
  · show (v.sb.getD k Sb0).st ≤ num; omega
  · show 0 ≤ (v.sb.getD k Sb0).lo + goneS v (v.sb.getD k Sb0) num; omega
  · show 0 ≤ (v.sb.getD k Sb0).pa + (num - (v.sb.getD k Sb0).cu - goneS v (v.sb.getD k Sb0) num); omega
  · show (v.sb.getD k Sb0).gt + ((v.sb.getD k Sb0).lo + goneS v (v.sb.getD k Sb0) num) + ((v.sb.getD k Sb0).pa + (num - (v.sb.getD k Sb0).cu - goneS v (v.sb.getD k Sb0) num)) = num - (v.sb.getD k Sb0).st; omega
  · show v.se - _ ≤ (v.it.length : Int)
    omega
theorem ok_skip {v : Rv} (h : okR restR v = true) (id num : Int) : okR restR (skipG v id num) = true := by
  unfold skipG
  rw [if_pos h]
  split
  · exact h
  · rename_i h1
    split
    · exact h
    · rename_i h2
      split
      · exact h
      · rename_i h3
        obtain ⟨h4, h5⟩ := at_id2 (show 0 ≤ atR v.sb id by omega)
        simp only [Bool.or_eq_true, not_or] at h2
        exact ok_skipV h h4 (by omega) (by omega) (by rw [h5]; exact not_has h2.1)
open Go.RowKit Go.Maps Pl Il
theorem trim_se (v : Rv) : (trimR v).se = v.se := by unfold trimR; split <;> rfl
theorem trim_sb (v : Rv) : (trimR v).sb = v.sb := by unfold trimR; split <;> rfl
end Go.Proofs.YtihdglmiecifjaaGreat
namespace Go.Proofs.YtihdglmiecifjaaGreat
open Go.RowKit Pl Il
theorem ok_headL {v : Rv} (h : okR restR v = true) : (1 ≤ v.cp ∧ v.cp ≤ 16) ∧ (0 ≤ v.se ∧ v.se ≤ 1000000000) := by
  simp only [okR, headR, Bool.and_eq_true, decide_eq_true_eq] at h
  exact ⟨h.1.1.1.1.1, h.1.1.1.1.2⟩
theorem ok_boundsL {v : Rv} (h : okR restR v = true) : v.sb.length ≤ 12 ∧ ∀ s, s ∈ v.sb → (0 ≤ s.cu ∧ s.cu ≤ v.se) ∧ (0 ≤ s.gt ∧ s.gt ≤ 1000000000) ∧ (0 ≤ s.lo ∧ s.lo ≤ 1000000000) ∧ (0 ≤ s.pa ∧ s.pa ≤ 1000000000) := by
  simp only [okR, headR, Bool.and_eq_true, decide_eq_true_eq] at h
  obtain ⟨⟨⟨⟨⟨_, hse⟩, _⟩, h12⟩, _⟩, hs, _⟩ := h
  refine ⟨h12, fun s hm => ?_⟩
  obtain ⟨j, hj, rfl⟩ := List.getElem_of_mem hm
  unfold subsTo at hs
  rw [List.all_eq_true] at hs
  have := hs j (List.mem_range.2 hj)
  rw [List.getD_eq_getElem?_getD, List.getElem?_eq_getElem hj, Option.getD_some] at this
  simp only [subR, subHead, subSums, Bool.and_eq_true, decide_eq_true_eq] at this
  obtain ⟨⟨⟨⟨⟨⟨⟨⟨_, _⟩, a⟩, b⟩, c⟩, d⟩, e⟩, f⟩, ⟨⟨⟨g, i⟩, l⟩, _⟩, _⟩ := this.1
  omega
def lagOk (v : Rv) (id : Int) : Bool := okR restR v && decide (0 ≤ atR v.sb id)
def lagB (v : Rv) (id : Int) : Int := if lagOk v id = true then v.se - cuR v.sb (atR v.sb id) else 0
def lagM (v : Rv) (id : Int) : Int := if lagOk v id = true then (if v.se - v.cp - cuR v.sb (atR v.sb id) < 0 then 0 else v.se - v.cp - cuR v.sb (atR v.sb id)) else 0
def LagDone (F : Nat) : Prop := ∀ (M : Rm) (v : Rv) (id : Int) (w : World), RIn w M v → RLe M 1048576 → RCap M → RWf v →
  Calls Tryz.prog F #[.agg #[.int .i64 v.cp, .int .i64 v.se, .slice M.ia M.i M.ic, .int .i64 v.nx, .slice M.sa M.s M.sc, .slice M.la M.l M.lc, .slice M.ga M.g M.gc, .bool v.cl], .int .i64 id] w fun e w' => e = .returned (.tuple #[.int .i64 (lagB v id), .int .i64 (lagM v id), .bool (lagOk v id)]) ∧ Below w.heap.size w w'
theorem lostAhead_any (r s c : Int) (w : World) (h1 : IntKind.i64.wrap (s - r) = s - r) (h2 : IntKind.i64.wrap (s - r - c) = s - r - c) :
    Calls Tryz.prog 112 #[.int .i64 r, .int .i64 s, .int .i64 c] w fun e w' => e = .returned (.int .i64 (if s - r - c < 0 then 0 else s - r - c)) ∧ w' = w := by
  by_cases hn : s - r - c < 0
  · rw [if_pos hn]
    go_enter Tryz.func112, Tryz.ntmps112
    go_wp2
    all_goals go_ret
    all_goals exact ⟨rint (by omega), rfl⟩
  · rw [if_neg hn]
    go_enter Tryz.func112, Tryz.ntmps112
    go_wp2
    all_goals go_ret
    all_goals exact ⟨rint (by omega), rfl⟩
set_option maxRecDepth 100000 in
set_option maxHeartbeats 8000000 in
theorem implLag_any : LagDone 45 := by
 intro M v id w hI hm hcap hw
 obtain ⟨W0, hW0⟩ : ∃ W, W = w.alloc (.cells #[.int .i64 v.cp, .int .i64 v.se, .slice M.ia M.i M.ic, .int .i64 v.nx, .slice M.sa M.s M.sc, .slice M.la M.l M.lc, .slice M.ga M.g M.gc, .bool v.cl] 28) := ⟨_, rfl⟩
 have hX : RHold w M v W0 := by
  have b0 : Below w.heap.size w W0 := by rw [hW0]; exact bl_alloc (Below.refl _ _) _
  exact ⟨by rw [hW0]; exact BoxL.new w (rC M v) _, hI.keep b0, b0⟩
 have hsl : v.sb.length = M.s := by
  have h1 := hI.sb.len
  have h2 := congrArg List.length hI.sv
  simp [svs] at h2
  omega
 have HSl := hidOf hsl
 have HOk := hidOf (fun (h : okR restR v = true) => ok_boundsL h)
 have HHd := hidOf (fun (h : okR restR v = true) => ok_headL h)
 have HC := hidOf (fun (u : World) (hu : RHold w M v u) => implRingOk_any M v u hu.rin hm hcap hw)
 have HA := hidOf (fun (u : World) (hu : RHold w M v u) => placeOfSub_any M.sa M.s M.sc M.xs id u hu.rin.sb (Nat.le_trans hm.s (by omega)))
 rw [hI.sv] at HA
 have p0 := hX.box.cs 0 (by simp)
 have p1 := hX.box.cs 1 (by simp)
 have p2 := hX.box.cs 2 (by simp)
 have p3 := hX.box.cs 3 (by simp)
 have p4 := hX.box.cs 4 (by simp)
 have p5 := hX.box.cs 5 (by simp)
 have p6 := hX.box.cs 6 (by simp)
 have p7 := hX.box.cs 7 (by simp)
 simp at p0 p1 p2 p3 p4 p5 p6 p7
 have hMs := hm.s
 have HX := hidOf hX
 obtain ⟨q, hq⟩ : ∃ q, okR restR v = q := ⟨_, rfl⟩
 rw [hq] at HC
 have HQ := hidOf hq
 clear hI hm hX hcap hw hsl hq
 go_enter Tryz.func45, Tryz.ntmps45
 go_upto_region 1 with fail
 rw [← hW0]
 clear hW0
 go_wp2_with fail
 refine (HC.out _ HX.out).mono ?_
 rintro e w1 ⟨rfl, hb1⟩
 have hX := HX.out.keep hb1
 clear hb1 HX p0 p1 p2 p3 p4 p5 p6 p7
 cases q
 ·have HL := hidOf (show lagOk v id = false by unfold lagOk; rw [HQ.out]; rfl)
  have HX := hidOf hX
  clear hX
  go_wp2
  go_ret3
  rw [show lagB v id = 0 from if_neg (by rw [HL.out]; simp), show lagM v id = 0 from if_neg (by rw [HL.out]; simp), HL.out]
  exact ⟨rfl, HX.out.below⟩
 have p4 := hX.box.cs 4 (by simp)
 simp at p4
 have HX := hidOf hX
 clear hX
 go_wp2_with fail
 refine (HA.out _ HX.out).mono ?_
 rintro e w2 ⟨rfl, hb2⟩
 have hX := HX.out.keep hb2
 clear hb2 HX p4
 by_cases hk0 : atR v.sb id < 0
 ·have HL := hidOf (show lagOk v id = false by unfold lagOk; rw [decide_eq_false (show ¬ 0 ≤ atR v.sb id by omega), Bool.and_false])
  have HX := hidOf hX
  clear hX
  go_wp2
  go_ret3
  rw [show lagB v id = 0 from if_neg (by rw [HL.out]; simp), show lagM v id = 0 from if_neg (by rw [HL.out]; simp), HL.out]
  exact ⟨rfl, HX.out.below⟩
 have hk1 : (0 : Int) ≤ atR v.sb id := by omega
 obtain ⟨j, hj, hjl⟩ := atR_get2 hk1
 have hjs : j < M.s := by have := HSl.out; omega
 have hk2 : atR v.sb id < (M.s : Int) := by omega
 obtain hr | ⟨b, off, ea, hb, hcell⟩ := hX.rin.sb.row
 ·omega
 have hcj := hcell j hjs
 have hjt : (atR v.sb id).toNat = j := by rw [hj]; simp
 have hcu := sb_get hX.rin.sv (show j < M.xs.length by rw [hX.rin.sb.len]; exact hjs)
 have HCu := hidOf (show cuR v.sb (atR v.sb id) = (sg M.xs j).s.cu by unfold cuR; rw [hjt, hcu])
 have hbd := ((HOk.out HQ.out).2 (sg M.xs j).s (by rw [← hcu, List.getD_eq_getElem?_getD, List.getElem?_eq_getElem hjl]; exact List.getElem_mem hjl)).1
 have hhd := HHd.out HQ.out
 rw [← hjt] at hcj HCu hbd
 obtain ⟨x, hx⟩ : ∃ x, sg M.xs (atR v.sb id).toNat = x := ⟨_, rfl⟩
 rw [hx] at hcj HCu hbd
 have HL := hidOf (show lagOk v id = true by unfold lagOk; rw [HQ.out, decide_eq_true hk1]; rfl)
 have HRB := hidOf (show lagB v id = v.se - x.s.cu by unfold lagB; rw [if_pos HL.out, HCu.out])
 have HRM := hidOf (show lagM v id = if v.se - v.cp - x.s.cu < 0 then 0 else v.se - v.cp - x.s.cu by unfold lagM; rw [if_pos HL.out, HCu.out])
 have w1 : IntKind.i64.wrap (v.se - v.cp) = v.se - v.cp := by rw [IntKind.wrap_i64]; omega
 have w2 : IntKind.i64.wrap (v.se - v.cp - x.s.cu) = v.se - v.cp - x.s.cu := by rw [IntKind.wrap_i64]; omega
 have w3 : IntKind.i64.wrap (v.se - x.s.cu) = v.se - x.s.cu := by rw [IntKind.wrap_i64]; omega
 have HU := hidOf (hX.sub (x := x) (y := x) ea hcj hcj.c0)
 have hH := hX.sub (x := x) (y := x) ea hcj hcj.c0
 clear hX hcell hcj ea hj hjt hjs hjl hb hx hcu hbd hhd hk0 HCu
 have r0 := hH.1
 have r1 := hH.2.1
 have r4 := hH.2.2.2.2.1
 have rc := hH.2.2.2.2.2.2.2.2.2.2.1
 have HLA := hidOf (fun (u : World) => lostAhead_any v.cp v.se x.s.cu u w1 w2)
 rw [← HRM.out] at HLA
 go_upto_region 7 with fail
 clear r0 r1 r4 rc
 refine wp_region_noPanic ?_
 refine wp_region_held_drew (S := fun w' => RSub w M v (some ⟨b, off, none⟩) b (off + (atR v.sb id).toNat * 7) (off + (atR v.sb id).toNat * 7) x x w') (by kernel_rfl) hH.drew (fun hHeld => ?_)
 refine tK 0 ?_ rfl (by kernel_rfl) (by rfl) ?_ (by assumption) (fun _ _ _ h => h) ?_
 case refine_2 => (intro w hSw; (try dsimp only at hSw); go_simp; try with_reducible rfl)
 simp only [Act.put, List.getElem_toArray, List.getElem_cons_zero, List.setIfInBounds_toArray, List.set_cons_zero, List.set_cons_succ]
 refine tR 1 ?_
 refine tR 2 ?_
 refine tR 3 ?_
 refine tR 4 ?_
 refine tR 5 ?_
 refine tR 6 ?_
 refine tR 7 ?_
 refine tR 8 ?_
 refine tW 9 (fun K hK => ?_)
 go_simp
 refine (HLA.out _).mono ?_
 rintro e w9 ⟨rfl, rfl⟩
 go_wp2_with fail
 refine hK.out _ _ hHeld (fun hHeld => ?_)
 clear hK K
 refine tR 10 ?_
 refine tR 11 ?_
 refine tR 12 ?_
 refine wpAnyH_done (by kernel_rfl) ?_ _
 refine NoPanic.normal ?_
 have hT := RSub.hold hHeld
 have HT := hidOf hT
 clear hT hHeld hH
 go_wp2
 go_ret3
 rw [HRB.out, HL.out]
 exact ⟨rfl, HT.out.below⟩
end Go.Proofs.YtihdglmiecifjaaGreat
namespace Go.Proofs.YtihdglmiecifjaaGreat
open Go.RowKit Go.Maps Pl Il
theorem trim_lnS (v : Rv) : (trimR v).ln = v.ln ∧ (trimR v).gs = v.gs ∧ (trimR v).cp = v.cp := by unfold trimR; split <;> exact ⟨rfl, rfl, rfl⟩
theorem skip_no {v : Rv} {id num : Int} (h : skipC v id num ≠ 0) : skipG v id num = v := by
  unfold skipC at h
  unfold skipG
  split at h
  · rename_i h1
    rw [if_pos h1]
    split at h
    · rename_i h2; rw [if_pos h2]
    · rename_i h2
      rw [if_neg h2]
      split at h
      · rename_i h3; rw [if_pos h3]
      · rename_i h3
        rw [if_neg h3]
        split at h
        · rename_i h4; rw [if_pos h4]
        · omega
  · rename_i h1; rw [if_neg h1]
structure SkF (v y : Rv) (id num : Int) (k : Nat) (a b : Sb) : Prop where
  okv : okR restR v = true
  oky : okR restR y = true
  atv : atR v.sb id = (k : Int)
  aty : atR y.sb id = (k : Int)
  ea : v.sb.getD k Sb0 = a
  eb : y.sb.getD k Sb0 = b
  gt : b.gt = a.gt
  cu : b.cu = num
  lp : b.lo + b.pa - a.lo - a.pa = num - a.cu
  na : 0 ≤ a.lo ∧ a.lo ≤ 1000000000 ∧ 0 ≤ a.pa ∧ a.pa ≤ 1000000000 ∧ 0 ≤ a.cu ∧ a.cu ≤ 1000000000
  nb : 0 ≤ b.lo ∧ b.lo ≤ 1000000000 ∧ 0 ≤ b.pa ∧ b.pa ≤ 1000000000 ∧ 0 ≤ num ∧ num ≤ y.se ∧ y.se ≤ 1000000000
  lk : lagOk y id = true
  lb : lagB y id = y.se - num
  t1 : (recT y id).kd = 1 → num ≤ (recT y id).ix
  t2 : (recT y id).kd = 2 → (recT y id).n = lagM y id
theorem skip_facts {v : Rv} {id num : Int} (h : skipC v id num = 0) : ∃ (k : Nat) (a b : Sb), SkF v (skipG v id num) id num k a b := by
 have hg : okR restR v = true ∧ ¬ atR v.sb id < 0 ∧ ¬ (hasL v.ln id || hasL v.gs id) = true ∧ ¬ (num < (v.sb.getD (atR v.sb id).toNat Sb0).cu ∨ v.se < num) := by
  unfold skipC at h
  split at h
  ·rename_i h1
   split at h
   ·omega
   ·rename_i h2
    split at h
    ·omega
    ·rename_i h3
     split at h
     ·omega
     ·rename_i h4
      exact ⟨h1, h2, h3, h4⟩
  ·omega
 obtain ⟨hok, hat, hst, hnm⟩ := hg
 have hy := ok_skip hok id num
 have e : skipG v id num = trimR (skipV v (atR v.sb id).toNat num) := by unfold skipG; rw [if_pos hok, if_neg hat, if_neg hst, if_neg hnm]
 rw [e] at hy ⊢
 obtain ⟨hk, hid⟩ := at_id2 (show 0 ≤ atR v.sb id by omega)
 obtain ⟨k, hk0⟩ : ∃ k : Nat, atR v.sb id = (k : Int) := ⟨(atR v.sb id).toNat, by omega⟩
 have hkk : (atR v.sb id).toNat = k := by omega
 rw [hkk] at hk hid hnm hy ⊢
 obtain ⟨y, hyd⟩ : ∃ y, trimR (skipV v k num) = y := ⟨_, rfl⟩
 have hsk := skip_set v k num hk
 have hysb : y.sb = v.sb.set k ⟨(v.sb.getD k Sb0).id, (v.sb.getD k Sb0).st, num, (v.sb.getD k Sb0).gt, (v.sb.getD k Sb0).lo + goneS v (v.sb.getD k Sb0) num, (v.sb.getD k Sb0).pa + (num - (v.sb.getD k Sb0).cu - goneS v (v.sb.getD k Sb0) num), (v.sb.getD k Sb0).fl⟩ := by rw [← hyd, trim_sb, hsk]
 have hyse : y.se = v.se := by rw [← hyd, trim_se, hsk]
 have hyl := trim_lnS (skipV v k num)
 rw [hyd] at hyl hy ⊢
 have hyln : y.ln = v.ln := by rw [hyl.1, hsk]
 have hygs : y.gs = v.gs := by rw [hyl.2.1, hsk]
 have haty : atR y.sb id = (k : Int) := by
  rw [← hk0]
  exact atR_ids (by rw [hysb]; exact set_ids hk rfl) id
 obtain ⟨b, hb⟩ : ∃ b, y.sb.getD k Sb0 = b := ⟨_, rfl⟩
 have hbe : b = ⟨(v.sb.getD k Sb0).id, (v.sb.getD k Sb0).st, num, (v.sb.getD k Sb0).gt, (v.sb.getD k Sb0).lo + goneS v (v.sb.getD k Sb0) num, (v.sb.getD k Sb0).pa + (num - (v.sb.getD k Sb0).cu - goneS v (v.sb.getD k Sb0) num), (v.sb.getD k Sb0).fl⟩ := by rw [← hb, hysb]; exact set_getD hk
 obtain ⟨a, ha⟩ : ∃ a, v.sb.getD k Sb0 = a := ⟨_, rfl⟩
 rw [ha] at hbe hnm
 have hn1 := ok_nums hok hk
 rw [ha] at hn1
 have hky : k < y.sb.length := by rw [hysb, List.length_set]; exact hk
 have hn2 := ok_nums hy hky
 rw [hb] at hn2
 have hsy := (ok_head hy).2.1
 have hsv := (ok_head hok).2.1
 have hcub : b.cu = num := by rw [hbe]
 have hcur : cuR y.sb (atR y.sb id) = num := by
  unfold cuR
  rw [haty, Int.toNat_natCast]
  exact (congrArg Sb.cu hb).trans hcub
 have hlk : lagOk y id = true := by
  unfold lagOk
  rw [hy, haty]
  simp
 have hrt : recT y id = readT y b := by
  unfold recT
  rw [if_pos hy, if_neg (by rw [haty]; omega), hyln, hygs, if_neg hst, haty, Int.toNat_natCast, hb]
 refine ⟨k, a, b, hok, hy, hk0, haty, ha, hb, by rw [hbe], hcub, by rw [hbe]; simp only; omega, by omega, by omega, hlk, by unfold lagB; rw [if_pos hlk, hcur], fun hkd => ?_, fun hkd => ?_⟩
 ·rw [hrt] at hkd ⊢
  unfold readT at hkd ⊢
  split at hkd
  ·cases hkd
  ·split at hkd
   ·rename_i h1 h2
    rw [if_neg h1, if_pos h2]
    show num ≤ b.cu + _
    omega
   ·cases hkd
 ·rw [hrt] at hkd ⊢
  unfold readT at hkd ⊢
  split at hkd
  ·rename_i h1
   rw [if_pos h1]
   show goneN y b = _
   unfold lagM
   rw [if_pos hlk, hcur]
   unfold goneN at h1 ⊢
   rw [hcub] at h1 ⊢
   rw [if_neg (by omega)]
  ·split at hkd
   ·cases hkd
   ·cases hkd
open Go.RowKit Go.Maps Pl Il
def setLL : List Value → Nat → List Value → List Value
  | l, _, [] => l
  | l, o, v :: vs => setLL (l.set o v) (o + 1) vs
theorem setLL_get : ∀ (vs l : List Value) (o i : Nat), o + vs.length ≤ l.length → (setLL l o vs)[i]? = if o ≤ i ∧ i < o + vs.length then vs[i - o]? else l[i]?
  | [], l, o, i, _ => by unfold setLL; rw [if_neg (by simp only [List.length_nil]; omega)]
  | v :: vs, l, o, i, h => by
    unfold setLL
    simp only [List.length_cons] at h ⊢
    rw [setLL_get vs _ (o + 1) i (by simp; omega)]
    by_cases h1 : i = o
    · subst h1
      rw [if_neg (by omega), if_pos (by omega), List.getElem?_set, if_pos rfl, if_pos (by omega), Nat.sub_self]
      rfl
    · by_cases h2 : o + 1 ≤ i ∧ i < o + 1 + vs.length
      · rw [if_pos h2, if_pos (by omega), show i - o = (i - (o + 1)) + 1 by omega, List.getElem?_cons_succ]
      · rw [if_neg h2, if_neg (by omega), List.getElem?_set, if_neg (by omega)]
theorem row_setL {B g n c : Nat} {t : TypeId} {sz : Nat} : ∀ (vs : List Value) (w : World) (o : Nat) (l : List Value), w.ownsRow B t sz (.slice (some ⟨g, 0, none⟩) n c) n l → (setL w g o vs).ownsRow B t sz (.slice (some ⟨g, 0, none⟩) n c) n (setLL l o vs)
  | [], _, _, _, h => h
  | v :: vs, w, o, l, h => by
    unfold setL setLL
    exact row_setL vs _ _ _ (h.stored o v).1
theorem sflat_setS {xs : List Sa} {k : Nat} {x : Sa} (hk : k < xs.length) : setLL (sflat xs) (k * 7) (sC x) = sflat (xs.set k x) := by
  have hl : (sflat xs).length = xs.length * 7 := length_sflat xs
  have hl2 : (sflat (xs.set k x)).length = xs.length * 7 := by rw [length_sflat, List.length_set]
  refine List.ext_getElem? fun i => ?_
  rw [setLL_get _ _ _ _ (by rw [hl]; simp; omega)]
  by_cases hi : i < xs.length * 7
  · have e1 := sflat_at (xs.set k x) (i / 7) (i % 7) (by rw [List.length_set]; omega) (by omega)
    have e2 := sflat_at xs (i / 7) (i % 7) (by omega) (by omega)
    rw [show i / 7 * 7 + i % 7 = i by omega] at e1 e2
    rw [e1]
    have e3 : sg (xs.set k x) (i / 7) = if k = i / 7 then x else sg xs (i / 7) := by
      rw [sg_eq (by rw [List.length_set]; omega), List.getElem_set]
      split
      · rfl
      · rw [sg_eq (by omega)]
    rw [e3]
    by_cases hik : k = i / 7
    · rw [if_pos hik, if_pos (by simp; omega), show i - k * 7 = i % 7 by omega]
    · rw [if_neg hik, if_neg (by simp; omega), e2]
  · rw [if_neg (by simp; omega), List.getElem?_eq_none (by omega), List.getElem?_eq_none (by omega)]
theorem RRow.sub_row {B : Nat} {w : World} {M : Rm} {v : Rv} (h : RRow B w M v) {k : Nat} (hk : k < v.sb.length) : ∃ g, M.sa = some ⟨g, 0, none⟩ ∧ M.s = M.xs.length ∧ k < M.xs.length := by
  have hl : M.xs.length = v.sb.length := by rw [← h.sv]; simp [svs]
  obtain ⟨h1, ⟨e, e0⟩ | ⟨g, cp, cur, e, _⟩⟩ := h.sb
  · rw [e0, length_sflat] at h1; omega
  · injection e with e1
    exact ⟨g, e1, by rw [length_sflat] at h1; omega, by omega⟩
theorem blkR_set {M : Rm} {k : Nat} {s' : Sb} (hk : k < M.xs.length) : blkR { M with xs := M.xs.set k ⟨s', (sg M.xs k).a, (sg M.xs k).n, (sg M.xs k).c⟩ } = blkR M := by
  have e : (M.xs.set k ⟨s', (sg M.xs k).a, (sg M.xs k).n, (sg M.xs k).c⟩).map (fun x => (Value.slice x.a x.n x.c).ownBlock) = M.xs.map fun x => (Value.slice x.a x.n x.c).ownBlock := by
    refine List.ext_getElem (by simp) fun i h1 h2 => ?_
    simp only [List.getElem_map, List.getElem_set]
    split
    · rename_i h'
      subst h'
      rw [sg_eq hk]
    · rfl
  unfold blkR
  simp only
  rw [e]
theorem rowB {B K : Nat} {w w' : World} {t : TypeId} {s : Nat} {v : Value} {n : Nat} {xs : List Value} (h : w.ownsRow B t s v n xs) (hb : Below K w w') (hlt : ∀ q, v.ownBlock = some q → q < K) : w'.ownsRow B t s v n xs := by
  obtain ⟨hl, hn | ⟨g, cap, cur, rfl, hB, hg, hr⟩⟩ := h
  · exact ⟨hl, .inl hn⟩
  · exact ⟨hl, .inr ⟨g, cap, cur, rfl, hB, by rw [hb.block g (hlt g rfl)]; exact hg, hr⟩⟩
theorem RRow.far {B K : Nat} {w w' : World} {M : Rm} {v : Rv} (h : RRow B w M v) (hb : Below K w w') (hlt : ∀ q, some q ∈ blkR M → q < K) : RRow B w' M v :=
  have key : ∀ {u : Value}, u.ownBlock ∈ blkR M → ∀ q, u.ownBlock = some q → q < K := fun {u} hu q e => hlt q (by rw [← e]; exact hu)
  ⟨rowB h.it hb (key (by simp [blkR])), h.its, rowB h.sb hb (key (by simp [blkR])), fun x hx => rowB (h.fl x hx) hb (key (by
    unfold blkR
    exact List.mem_cons_of_mem _ (List.mem_cons_of_mem _ (List.mem_cons_of_mem _ (List.mem_cons_of_mem _ (List.mem_map.2 ⟨x, hx, rfl⟩)))))), h.fls, h.sv, rowB h.ln hb (key (by simp [blkR])), rowB h.gs hb (key (by simp [blkR])), h.apt⟩
theorem RRow.putSub {B : Nat} {w : World} {M : Rm} {v : Rv} {g k : Nat} {s' : Sb} (h : RRow B w M v) (hg : M.sa = some ⟨g, 0, none⟩) (hk : k < M.xs.length) (hf : s'.fl = (sg M.xs k).s.fl) :
    RRow B (setL w g (k * 7) (sC ⟨s', (sg M.xs k).a, (sg M.xs k).n, (sg M.xs k).c⟩)) { M with xs := M.xs.set k ⟨s', (sg M.xs k).a, (sg M.xs k).n, (sg M.xs k).c⟩ } { v with sb := v.sb.set k s' } ∧ w.grownBy (setL w g (k * 7) (sC ⟨s', (sg M.xs k).a, (sg M.xs k).n, (sg M.xs k).c⟩)) (some g) := by
  have hA : AptP _ _ _ _ _ := apt_iff.1 h.apt
  have hsb := h.sb
  rw [hg] at hsb
  have r1 := row_setL (sC ⟨s', (sg M.xs k).a, (sg M.xs k).n, (sg M.xs k).c⟩) w (k * 7) _ hsb
  rw [sflat_setS hk] at r1
  have gr : w.grownBy (setL w g (k * 7) (sC ⟨s', (sg M.xs k).a, (sg M.xs k).n, (sg M.xs k).c⟩)) (some g) := setL_grown ⟨rfl, rfl, rfl, Nat.le_refl _, fun _ _ _ => rfl⟩
  have hb : (Value.slice M.sa M.s M.sc).ownBlock = some g := by rw [hg]; rfl
  have hmem : ∀ x, x ∈ M.xs.set k ⟨s', (sg M.xs k).a, (sg M.xs k).n, (sg M.xs k).c⟩ → ∃ y, y ∈ M.xs ∧ x.a = y.a ∧ x.n = y.n ∧ x.c = y.c ∧ x.s.fl = y.s.fl := fun x hx => by
    rcases List.mem_or_eq_of_mem_set hx with h' | h'
    · exact ⟨x, h', rfl, rfl, rfl, rfl⟩
    · exact ⟨sg M.xs k, sg_mem hk, by rw [h'], by rw [h'], by rw [h'], by rw [h']; exact hf⟩
  refine ⟨⟨rowG h.it gr (fun q e e' => ?_), h.its, by rw [hg]; exact r1, fun x hx => ?_, fun x hx p hp => ?_, ?_, rowG h.ln gr (fun q e e' => ?_), rowG h.gs gr (fun q e e' => ?_), ?_⟩, gr⟩
  · injection e with e; subst e; exact hA.is _ e' hb
  · obtain ⟨y, hy, e1, e2, e3, e4⟩ := hmem x hx
    rw [e1, e2, e3, e4]
    exact rowG (h.fl y hy) gr (fun q e e' => by injection e with e; subst e; exact hA.sx _ (List.mem_map.2 ⟨y, hy, rfl⟩) _ hb e')
  · obtain ⟨y, hy, _, _, _, e4⟩ := hmem x hx
    rw [e4] at hp
    exact h.fls y hy p hp
  · show svs (M.xs.set k _) = v.sb.set k s'
    rw [← h.sv]
    simp only [svs, List.map_set]
  · injection e with e; subst e; exact hA.sl _ hb e'
  · injection e with e; subst e; exact hA.sg _ hb e'
  · rw [blkR_set hk]; exact h.apt
theorem RRow.item {B : Nat} {w : World} {M : Rm} {v : Rv} {i : Nat} (h : RRow B w M v) (hi : i < M.i) : ∃ bi, M.ia = some ⟨bi, 0, none⟩ ∧ v.it.length = M.i ∧ w.cell? ⟨bi, i * 3, none⟩ = some (.int .i64 (qg v.it i).1) ∧ w.cell? ⟨bi, i * 3 + 1, none⟩ = some (.int .i64 (qg v.it i).2.1) ∧ w.cell? ⟨bi, i * 3 + 2, none⟩ = some (.string (qg v.it i).2.2) := by
  obtain ⟨hl, ⟨e, _⟩ | ⟨g', c', cur, e, hB, hg, hc, hm, hs, ht⟩⟩ := h.it
  · have : M.i = 0 := by injection e
    omega
  · injection e with e1 e2 e3
    have hlen : v.it.length = M.i := by rw [length_qflat] at hl; omega
    have key : ∀ r, r < 3 → w.cell? ⟨g', i * 3 + r, none⟩ = (qflat v.it)[i * 3 + r]? := fun r hr => by
      rw [cell_of_row w g' (i * 3 + r) cur _ (0, 0) hg, ← ht, List.getElem?_take_of_lt (by omega), Array.getElem?_toList]
    refine ⟨g', e1, hlen, ?_, ?_, ?_⟩
    · have := key 0 (by omega); rw [qflat_at _ _ _ (by omega) (by omega)] at this; exact this
    · have := key 1 (by omega); rw [qflat_at _ _ _ (by omega) (by omega)] at this; exact this
    · have := key 2 (by omega); rw [qflat_at _ _ _ (by omega) (by omega)] at this; exact this
theorem BoxL.setAll {N : Nat} {vs us : List Value} {w : World} (h : BoxL N vs w) (hl : us.length = vs.length) : BoxL N us (setL w N 0 us) :=
  ⟨by rw [setL_size]; exact h.lt, fun i hi => by
    have k := setL_same (g := N) (vs := us) (w := w) (o := 0) (fun j hj => ⟨_, by rw [Nat.zero_add]; exact h.cs j (by omega)⟩) i hi
    rwa [Nat.zero_add] at k, fun o => by rw [setL_fr]; exact h.fr o⟩
theorem BoxL.setFar {N M o : Nat} {vs us : List Value} {w : World} (h : BoxL N vs w) (hM : N ≠ M) : BoxL N vs (setL w M o us) := h.of_block (setL_block hM) (by rw [setL_size]; exact h.lt)
def RdP (B : Nat) (w : World) (M : Rm) (v : Rv) (k : Nat) (e : Ending) (w' : World) : Prop := ∃ xs' : List Sa, e = .returned (.tuple #[.agg #[.int .i64 v.cp, .int .i64 v.se, .slice M.ia M.i M.ic, .int .i64 v.nx, .slice M.sa M.s M.sc, .slice M.la M.l M.lc, .slice M.ga M.g M.gc, .bool v.cl], .agg #[.int .i64 (readT v (v.sb.getD k Sb0)).kd, .int .i64 (readT v (v.sb.getD k Sb0)).ms.1, .int .i64 (readT v (v.sb.getD k Sb0)).ms.2.1, .string (readT v (v.sb.getD k Sb0)).ms.2.2, .int .i64 (readT v (v.sb.getD k Sb0)).ix, .int .i64 (readT v (v.sb.getD k Sb0)).n], .int .i64 (readC v (v.sb.getD k Sb0))]) ∧ RRow B w' { M with xs := xs' } (rdV v k) ∧ (∀ y, y ∈ xs' → ∃ x, x ∈ M.xs ∧ y.n = x.n) ∧ w.grownBy w' (Value.slice M.sa M.s M.sc).ownBlock ∧ blkR { M with xs := xs' } = blkR M
theorem RdP.mk {B : Nat} {w U w' : World} {M : Rm} {v : Rv} {k g : Nat} {e : Ending} {s' : Sb} {td : Td} {c : Int} (hR : RRow B w M v) (hg : M.sa = some ⟨g, 0, none⟩) (hk : k < M.xs.length) (hwU : Below w.heap.size w U) (hY : Below w.heap.size (setL U g (k * 7) (sC ⟨s', (sg M.xs k).a, (sg M.xs k).n, (sg M.xs k).c⟩)) w') (hf : s'.fl = (sg M.xs k).s.fl) (hs : readS v (v.sb.getD k Sb0) = s') (ht : readT v (v.sb.getD k Sb0) = td) (hc : readC v (v.sb.getD k Sb0) = c)
    (he : e = .returned (.tuple #[.agg #[.int .i64 v.cp, .int .i64 v.se, .slice M.ia M.i M.ic, .int .i64 v.nx, .slice M.sa M.s M.sc, .slice M.la M.l M.lc, .slice M.ga M.g M.gc, .bool v.cl], .agg #[.int .i64 td.kd, .int .i64 td.ms.1, .int .i64 td.ms.2.1, .string td.ms.2.2, .int .i64 td.ix, .int .i64 td.n], .int .i64 c])) : RdP B w M v k e w' := by
  subst ht hc
  have hput := (hR.keep hwU).putSub hg hk hf
  have hrow : RRow B w' { M with xs := M.xs.set k ⟨s', (sg M.xs k).a, (sg M.xs k).n, (sg M.xs k).c⟩ } (rdV v k) := by
    unfold rdV
    rw [hs]
    exact hput.1.far hY fun q hq => by rw [blkR_set hk] at hq; exact (hR.blk q hq).2
  refine ⟨_, he, hrow, fun y hy => ?_, ?_, blkR_set hk⟩
  · rcases List.mem_or_eq_of_mem_set hy with h' | h'
    · exact ⟨y, h', rfl⟩
    · exact ⟨sg M.xs k, sg_mem hk, by rw [h']⟩
  · have hgr := hput.2
    have hbk : (Value.slice M.sa M.s M.sc).ownBlock = some g := by rw [hg]; rfl
    rw [hbk]
    refine ⟨hY.os.trans (hgr.os.trans hwU.os), hY.tape.trans (hgr.tape.trans hwU.tape), hY.output.trans (hgr.output.trans hwU.output), Nat.le_trans hwU.size (Nat.le_trans hgr.size hY.size), fun j hj hne => ?_⟩
    rw [hY.block j hj, hgr.block j (Nat.lt_of_lt_of_le hj hwU.size) hne, hwU.block j hj]
open Go.RowKit Go.Maps Pl Il
abbrev zS : List Value := [.int .i64 0, .int .i64 0, .int .i64 0, .int .i64 0, .int .i64 0, .int .i64 0, .slice none 0 0]
def SubOfP (M : Rm) (v : Rv) (id : Int) (e : Ending) : Prop :=
  (0 ≤ atR v.sb id → e = .returned (.tuple #[.agg #[.int .i64 (sg M.xs (atR v.sb id).toNat).s.id, .int .i64 (sg M.xs (atR v.sb id).toNat).s.st, .int .i64 (sg M.xs (atR v.sb id).toNat).s.cu, .int .i64 (sg M.xs (atR v.sb id).toNat).s.gt, .int .i64 (sg M.xs (atR v.sb id).toNat).s.lo, .int .i64 (sg M.xs (atR v.sb id).toNat).s.pa, .slice (sg M.xs (atR v.sb id).toNat).a (sg M.xs (atR v.sb id).toNat).n (sg M.xs (atR v.sb id).toNat).c], .bool true])) ∧
  (atR v.sb id < 0 → e = .returned (.tuple #[.agg #[.int .i64 0, .int .i64 0, .int .i64 0, .int .i64 0, .int .i64 0, .int .i64 0, .slice none 0 0], .bool false]))
set_option maxRecDepth 100000 in
set_option maxHeartbeats 4000000 in
theorem subOf_any (M : Rm) (v : Rv) (id : Int) (w : World) (hI : RIn w M v) (hm : RLe M 2097152) :
  Calls Tryz.prog 26 #[.agg #[.int .i64 v.cp, .int .i64 v.se, .slice M.ia M.i M.ic, .int .i64 v.nx, .slice M.sa M.s M.sc, .slice M.la M.l M.lc, .slice M.ga M.g M.gc, .bool v.cl], .int .i64 id] w fun e w' => SubOfP M v id e ∧ Below w.heap.size w w' := by
 obtain ⟨W0, hW0⟩ : ∃ W, W = (w.alloc (.cells #[.int .i64 v.cp, .int .i64 v.se, .slice M.ia M.i M.ic, .int .i64 v.nx, .slice M.sa M.s M.sc, .slice M.la M.l M.lc, .slice M.ga M.g M.gc, .bool v.cl] 28)).alloc (.cells #[.int .i64 0, .int .i64 0, .int .i64 0, .int .i64 0, .int .i64 0, .int .i64 0, .slice none 0 0] 41) := ⟨_, rfl⟩
 have b0 : Below w.heap.size w W0 := by rw [hW0]; exact bl_alloc (bl_alloc (Below.refl _ _) _) _
 have X0 : BoxL w.heap.size (rC M v) W0 := by rw [hW0]; exact (BoxL.new w (rC M v) _).alloc _
 have R0 : BoxL (w.heap.size + 1) zS W0 := by
  rw [hW0]
  have h := BoxL.new (w.alloc (.cells #[.int .i64 v.cp, .int .i64 v.se, .slice M.ia M.i M.ic, .int .i64 v.nx, .slice M.sa M.s M.sc, .slice M.la M.l M.lc, .slice M.ga M.g M.gc, .bool v.cl] 28)) zS 41
  simpa using h
 have HX0 := hidOf X0
 have HR0 := hidOf R0
 have HI := hidOf (hI.keep b0)
 have HB0 := hidOf b0
 have hms := hm.s
 have hsl : v.sb.length = M.s := by have h1 := hI.sb.len; rw [← hI.sv]; simp [svs, h1]
 have HSl := hidOf hsl
 have HSv := hidOf hI.sv
 have HXl := hidOf hI.sb.len
 have p4 := X0.cs 4 (by simp)
 simp only [List.getElem_cons_succ, List.getElem_cons_zero] at p4
 obtain ⟨r0, r1, r2, r3, r4, r5, r6⟩ : W0.cell? ⟨w.heap.size + 1, 0, none⟩ = some (.int .i64 0) ∧ W0.cell? ⟨w.heap.size + 1, 1, none⟩ = some (.int .i64 0) ∧ W0.cell? ⟨w.heap.size + 1, 2, none⟩ = some (.int .i64 0) ∧ W0.cell? ⟨w.heap.size + 1, 3, none⟩ = some (.int .i64 0) ∧ W0.cell? ⟨w.heap.size + 1, 4, none⟩ = some (.int .i64 0) ∧ W0.cell? ⟨w.heap.size + 1, 5, none⟩ = some (.int .i64 0) ∧ W0.cell? ⟨w.heap.size + 1, 6, none⟩ = some (.slice none 0 0) := ⟨R0.cs 0 (by simp), R0.cs 1 (by simp), R0.cs 2 (by simp), R0.cs 3 (by simp), R0.cs 4 (by simp), R0.cs 5 (by simp), R0.cs 6 (by simp)⟩
 have rf := R0.fr
 clear hI hm b0 X0 R0 hsl
 go_enter Tryz.func26, Tryz.ntmps26
 go_wp2_with fail
 rw [← hW0]
 clear hW0
 go_loopw [6] (fun i wr => wr = W0 ∧ ∃ k : Nat, k ≤ M.s ∧ i = .int .i64 (k : Int) ∧ ∀ j (hj : j < k), (v.sb.getD j Sb0).id ≠ id) (fun i _ => M.s - (intOf i).toNat)
 case atStart => exact ⟨rfl, 0, Nat.zero_le _, rfl, fun j hj => by omega⟩
 case round =>
  obtain ⟨hwr, k, hk, rfl, hno⟩ := hrel
  obtain rfl : W0 = wr := hwr.symm
  have HNo := hidOf hno
  clear hno
  by_cases hlt : k < M.s
  ·have hki : (k : Int) < (M.s : Int) := by omega
   obtain hr | ⟨b, off, e1, hb, hcell⟩ := HI.out.sb.row
   ·omega
   have hc := hcell k hlt
   have hxk : v.sb.getD k Sb0 = (sg M.xs k).s := by rw [← HSv.out]; exact sg_svs2 (by have := HXl.out; omega)
   have HXk := hidOf hxk
   obtain ⟨c0, c1, c2, c3, c4, c5, c6⟩ := hc
   rw [e1] at p4
   have HE1 := hidOf e1
   clear hcell hb e1 hxk
   by_cases he : (sg M.xs k).s.id = id
   ·have hat : atR v.sb id = (k : Int) := by
     have h1 := HSl.out
     refine atR_at (by omega) (fun j hj e => HNo.out j hj (by rw [get_sb (by omega)]; exact e)) ?_
     rw [← get_sb (by omega), HXk.out]
     exact he
    have he' : ((sg M.xs k).s.id == id) = true := by simp [he]
    obtain ⟨Z, hZ⟩ : ∃ Z, setL W0 (w.heap.size + 1) 0 (sC (sg M.xs k)) = Z := ⟨_, rfl⟩
    have hZx : BoxL (w.heap.size + 1) (sC (sg M.xs k)) Z := by rw [← hZ]; exact HR0.out.setAll (us := sC (sg M.xs k)) rfl
    have HBZ := hidOf (show Below w.heap.size w Z by rw [← hZ]; exact setL_below (by omega) HB0.out)
    have HAt := hidOf hat
    have z0 := hZx.cs 0 (by simp)
    have z1 := hZx.cs 1 (by simp)
    have z2 := hZx.cs 2 (by simp)
    have z3 := hZx.cs 3 (by simp)
    have z4 := hZx.cs 4 (by simp)
    have z5 := hZx.cs 5 (by simp)
    have z6 := hZx.cs 6 (by simp)
    simp only [List.getElem_cons_succ, List.getElem_cons_zero] at z0 z1 z2 z3 z4 z5 z6
    clear hat he hZx
    go_wp2_with fail
    change bodyPost _ _ _ _ _ (setL W0 (w.heap.size + 1) 0 (sC (sg M.xs k)))
    rw [hZ]
    exact bodyPost_ret (v := .tuple #[.agg #[.int .i64 (sg M.xs k).s.id, .int .i64 (sg M.xs k).s.st, .int .i64 (sg M.xs k).s.cu, .int .i64 (sg M.xs k).s.gt, .int .i64 (sg M.xs k).s.lo, .int .i64 (sg M.xs k).s.pa, .slice (sg M.xs k).a (sg M.xs k).n (sg M.xs k).c], .bool true]) (by simp [results, Tryz.results26, go_sem, z0, z1, z2, z3, z4, z5, z6]) rfl ⟨⟨fun _ => by rw [HAt.out]; rfl, fun h => by rw [HAt.out] at h; omega⟩, HBZ.out⟩
   ·have he' : ((sg M.xs k).s.id == id) = false := by simp [he]
    have HNe := hidOf he
    clear he
    go_wp2_with fail
    go_roundw
    case rel => exact ⟨by trivial, k + 1, hlt, by go_num, fun j hj => by
     rcases Nat.lt_succ_iff_lt_or_eq.1 hj with h | h
     ·exact HNo.out j h
     ·subst h; rw [HXk.out]; exact HNe.out⟩
    case measure => simp [intOf]; omega
  ·have hki : ¬ (k : Int) < (M.s : Int) := by omega
   have HAt := hidOf (show atR v.sb id = -1 from atR_none (fun j hj e => HNo.out j (by have := HSl.out; omega) (by rw [get_sb hj]; exact e)))
   have HBZ := hidOf (show Below w.heap.size w (setL W0 (w.heap.size + 1) 0 zS) from setL_below (by omega) HB0.out)
   obtain ⟨Z, hZ⟩ : ∃ Z, setL W0 (w.heap.size + 1) 0 zS = Z := ⟨_, rfl⟩
   have hZx : BoxL (w.heap.size + 1) zS Z := by rw [← hZ]; exact HR0.out.setAll (us := zS) rfl
   rw [hZ] at HBZ
   have z0 := hZx.cs 0 (by simp)
   have z1 := hZx.cs 1 (by simp)
   have z2 := hZx.cs 2 (by simp)
   have z3 := hZx.cs 3 (by simp)
   have z4 := hZx.cs 4 (by simp)
   have z5 := hZx.cs 5 (by simp)
   have z6 := hZx.cs 6 (by simp)
   simp only [List.getElem_cons_succ, List.getElem_cons_zero] at z0 z1 z2 z3 z4 z5 z6
   clear hZx
   go_wp2_with fail
   change bodyPost _ _ _ _ _ (setL W0 (w.heap.size + 1) 0 zS)
   rw [hZ]
   exact bodyPost_ret (v := .tuple #[.agg #[.int .i64 0, .int .i64 0, .int .i64 0, .int .i64 0, .int .i64 0, .int .i64 0, .slice none 0 0], .bool false]) (by simp [results, Tryz.results26, go_sem, z0, z1, z2, z3, z4, z5, z6]) rfl ⟨⟨fun h => by rw [HAt.out] at h; omega, fun _ => rfl⟩, HBZ.out⟩
end Go.Proofs.YtihdglmiecifjaaGreat
