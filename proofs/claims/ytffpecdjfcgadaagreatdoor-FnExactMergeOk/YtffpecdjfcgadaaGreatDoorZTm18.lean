/-
  Rings: plain mathematics. What a right ring is, as the specification and as the program ask for it: the same.
  Walks of the functions that tell a right message.
-/
import Derived.Test.YtffpecdjfcgadaaGreatDoorZTm17
import Derived.Test.YtffpecdjfcgadaaGreatDoorRows
import Derived.Test.YtffpecdjfcgadaaGreatDoorZTm3
import Derived.WalkKit
import Derived.WalkSpells
import Derived.WalkLawsBesides
import Derived.RowKit3
import Derived.Deep.RegionHeld3
import Derived.Deep.RegionWith
namespace Go.Proofs.YtffpecdjfcgadaaGreatDoor
open Go.RowKit Pl Il

/-- Every message is right. -/
def msgsR (v : Rv) : Bool := v.it.all fun m => okB m.1 m.2.1 m.2.2
/-- The cursor of the one in place k. -/
def cuR (sb : List Sb) (k : Int) : Int := (sb.getD k.toNat ⟨0, 0, 0, 0, 0, 0, []⟩).cu
/-- The one in place i of those who wait or were told is right. -/
def waitAt (v : Rv) (i : Nat) : Bool :=
  decide (0 ≤ atR v.sb ((v.ln ++ v.gs).getD i 0)) && (!hasL ((v.ln ++ v.gs).take i) ((v.ln ++ v.gs).getD i 0) && (decide (v.ln.length ≤ i) || decide (cuR v.sb (atR v.sb ((v.ln ++ v.gs).getD i 0)) = v.se)))
def waitTo (v : Rv) (k : Nat) : Bool := (List.range k).all (waitAt v)
theorem waitTo_succ (v : Rv) (k : Nat) : waitTo v (k + 1) = (waitTo v k && waitAt v k) := by
  unfold waitTo
  rw [List.range_succ, List.all_append]
  simp
theorem waitTo_bad {v : Rv} {k n : Nat} (h : waitAt v k = false) (hk : k < n) : waitTo v n = false := by
  unfold waitTo
  rw [List.all_eq_false]
  exact ⟨k, List.mem_range.2 hk, by simp [h]⟩
/-- What the rest of RingOk asks for. -/
def restR (v : Rv) : Bool := msgsR v && waitTo v (v.ln.length + v.gs.length)
/-- What RingOk asks for, f being asked last. -/
def okR (f : Rv → Bool) (v : Rv) : Bool := headR v && (subsTo v v.sb.length && (lenR v && f v))

/-- The same, as the program asks for it. -/
def subI (se : Int) (s : Sb) : Bool := decide (0 ≤ s.st ∧ s.st ≤ s.cu ∧ s.cu ≤ se) && (decide (0 ≤ s.gt ∧ s.gt ≤ s.cu - s.st) && (decide (0 ≤ s.lo ∧ s.lo ≤ s.cu - s.st) && (decide (0 ≤ s.pa ∧ s.pa ≤ s.cu - s.st) && (decide (s.gt + s.lo + s.pa = s.cu - s.st) && okF s.fl))))
def leastAt (sb : List Sb) (k : Nat) : Int := if k = 0 then 0 else (sb.getD (k - 1) ⟨0, 0, 0, 0, 0, 0, []⟩).id + 1
def subsIAt (v : Rv) (i : Nat) : Bool := decide (leastAt v.sb i ≤ (v.sb.getD i ⟨0, 0, 0, 0, 0, 0, []⟩).id ∧ (v.sb.getD i ⟨0, 0, 0, 0, 0, 0, []⟩).id < v.nx) && subI v.se (v.sb.getD i ⟨0, 0, 0, 0, 0, 0, []⟩)
def subsITo (v : Rv) (k : Nat) : Bool := (List.range k).all (subsIAt v)
theorem subsITo_succ (v : Rv) (k : Nat) : subsITo v (k + 1) = (subsITo v k && subsIAt v k) := by
  unfold subsITo
  rw [List.range_succ, List.all_append]
  simp
theorem subsITo_bad {v : Rv} {k n : Nat} (h : subsIAt v k = false) (hk : k < n) : subsITo v n = false := by
  unfold subsITo
  rw [List.all_eq_false]
  exact ⟨k, List.mem_range.2 hk, by simp [h]⟩
def headI (v : Rv) : Bool := decide ((1 ≤ v.cp ∧ v.cp ≤ 16) ∧ (0 ≤ v.se ∧ v.se ≤ 1000000000) ∧ (0 ≤ v.nx ∧ v.nx ≤ 1000000000))
def subsI (v : Rv) : Bool := decide (v.sb.length ≤ 12) && subsITo v v.sb.length
def itemsI (v : Rv) : Bool := decide ((v.it.length : Int) = v.se - oldR v) && msgsR v
def lineI (v : Rv) (y : Int) : Bool := decide (0 ≤ atR v.sb y) && decide (cuR v.sb (atR v.sb y) = v.se)
def grantI (v : Rv) (y : Int) : Bool := decide (0 ≤ atR v.sb y)
def waitI (v : Rv) : Bool := !(v.cl && decide (0 < v.ln.length)) && (v.ln.all (lineI v) && (v.gs.all (grantI v) && decide (dist (v.ln ++ v.gs) = (v.ln ++ v.gs).length)))
def okI (v : Rv) : Bool := headI v && (subsI v && (itemsI v && waitI v))

theorem subsI_eq (v : Rv) : ∀ k, subsITo v k = subsTo v k
  | 0 => rfl
  | k + 1 => by
    rw [subsITo_succ, subsTo_succ, subsI_eq v k]
    cases hs : subsTo v k
    · rfl
    rw [Bool.true_and, Bool.true_and]
    have hp : k = 0 ∨ 0 ≤ (v.sb.getD (k - 1) ⟨0, 0, 0, 0, 0, 0, []⟩).id := by
      rcases Nat.eq_zero_or_pos k with h | h
      · exact .inl h
      · right
        obtain ⟨j, rfl⟩ : ∃ j, k = j + 1 := ⟨k - 1, by omega⟩
        rw [subsTo_succ] at hs
        simp only [Bool.and_eq_true, subR, subHead, decide_eq_true_eq] at hs
        have := hs.2.1.1.1.1.1.1.1.1.1
        simpa using this
    rw [Bool.eq_iff_iff]
    simp only [subsIAt, subI, subR, subHead, subSums, Bool.and_eq_true, Bool.or_eq_true, decide_eq_true_eq]
    unfold leastAt
    rcases Nat.eq_zero_or_pos k with h | h
    · subst h
      simp only [if_true, true_or, and_true]
      constructor
      · rintro ⟨⟨a, b⟩, ⟨c, d, e⟩, ⟨f, g⟩, ⟨i, j⟩, ⟨l, m⟩, n, o⟩
        exact ⟨⟨⟨⟨⟨⟨⟨⟨a, by omega⟩, c⟩, d⟩, e⟩, f⟩, i⟩, l⟩, ⟨⟨⟨g, j⟩, m⟩, n⟩, o⟩
      · rintro ⟨⟨⟨⟨⟨⟨⟨⟨a, b⟩, c⟩, d⟩, e⟩, f⟩, i⟩, l⟩, ⟨⟨⟨g, j⟩, m⟩, n⟩, o⟩
        exact ⟨⟨a, by omega⟩, ⟨c, d, e⟩, ⟨f, g⟩, ⟨i, j⟩, ⟨l, m⟩, n, o⟩
    · have hk : ¬ k = 0 := by omega
      have hp' := hp.resolve_left hk
      simp only [hk, if_false, false_or]
      constructor
      · rintro ⟨⟨a, b⟩, ⟨c, d, e⟩, ⟨f, g⟩, ⟨i, j⟩, ⟨l, m⟩, n, o⟩
        exact ⟨⟨⟨⟨⟨⟨⟨⟨⟨by omega, by omega⟩, c⟩, d⟩, e⟩, f⟩, i⟩, l⟩, ⟨⟨⟨g, j⟩, m⟩, n⟩, o⟩, by omega⟩
      · rintro ⟨⟨⟨⟨⟨⟨⟨⟨⟨a, b⟩, c⟩, d⟩, e⟩, f⟩, i⟩, l⟩, ⟨⟨⟨g, j⟩, m⟩, n⟩, o⟩, q⟩
        exact ⟨⟨by omega, by omega⟩, ⟨c, d, e⟩, ⟨f, g⟩, ⟨i, j⟩, ⟨l, m⟩, n, o⟩
theorem oldR_ge (v : Rv) : v.se - v.cp ≤ oldR v := by
  unfold oldR
  simp only
  split <;> split <;> omega
theorem atR_mem {sb : List Sb} {id : Int} (h : 0 ≤ atR sb id) : id ∈ sb.map (·.id) := by
  unfold atR at h
  cases hf : sb.findIdx? (fun s => s.id == id) with
  | none => rw [hf] at h; simp at h
  | some i =>
    rw [List.findIdx?_eq_some_iff_getElem] at hf
    obtain ⟨hi, he, _⟩ := hf
    exact List.mem_map.2 ⟨sb[i], List.getElem_mem hi, by simpa using he⟩
theorem dist_iff (xs : List Int) : dist xs = xs.length ↔ ∀ i, i < xs.length → hasL (xs.take i) (xs.getD i 0) = false := by
  constructor
  · intro h i hi
    unfold dist at h
    have := filter_len_eq (l := List.range xs.length) (by rw [h]; simp) i (List.mem_range.2 hi)
    simpa using this
  · intro h
    unfold dist
    rw [List.filter_eq_self.2 (fun i hi => by rw [h i (List.mem_range.1 hi)]; rfl)]
    simp
theorem dist_nodup {xs : List Int} (h : dist xs = xs.length) : xs.Nodup := by
  rw [List.nodup_iff_pairwise_ne, List.pairwise_iff_getElem]
  intro i j hi hj hij e
  have := (dist_iff xs).1 h j hj
  simp only [hasL, List.getD_eq_getElem?_getD, List.getElem?_eq_getElem hj, Option.getD_some, List.contains_eq_mem, decide_eq_false_iff_not] at this
  exact this (by rw [← e]; exact List.mem_take_iff_getElem.2 ⟨i, by omega, rfl⟩)
theorem few_wait {v : Rv} (hs : v.sb.length ≤ 12) (hd : dist (v.ln ++ v.gs) = (v.ln ++ v.gs).length) (h : ∀ y, y ∈ v.ln ++ v.gs → 0 ≤ atR v.sb y) : v.ln.length + v.gs.length ≤ 12 := by
  have h1 := (dist_nodup hd).length_le_of_subset (l₂ := v.sb.map (·.id)) (fun y hy => atR_mem (h y hy))
  simp only [List.length_append, List.length_map] at h1
  omega
theorem get_mem {xs : List Int} {i : Nat} (h : i < xs.length) : xs.getD i 0 ∈ xs := by
  rw [List.getD_eq_getElem?_getD, List.getElem?_eq_getElem h]
  exact List.getElem_mem h
theorem get_left {xs ys : List Int} {i : Nat} (h : i < xs.length) : (xs ++ ys).getD i 0 = xs.getD i 0 := by
  simp [List.getD_eq_getElem?_getD, List.getElem?_append_left h]
theorem get_right {xs ys : List Int} {i : Nat} (h : xs.length ≤ i) : (xs ++ ys).getD i 0 = ys.getD (i - xs.length) 0 := by
  simp [List.getD_eq_getElem?_getD, List.getElem?_append_right h]
theorem get_of {xs : List Int} {y : Int} (h : y ∈ xs) : ∃ i, i < xs.length ∧ xs.getD i 0 = y := by
  obtain ⟨i, hi, e⟩ := List.getElem_of_mem h
  exact ⟨i, hi, by rw [List.getD_eq_getElem?_getD, List.getElem?_eq_getElem hi]; exact e⟩
/-- Both ask for the same. -/
theorem okI_eq (v : Rv) : okI v = okR restR v := by
  rw [Bool.eq_iff_iff]
  simp only [okI, okR, headI, headR, subsI, itemsI, waitI, lenR, restR, Bool.and_eq_true, decide_eq_true_eq, subsI_eq]
  constructor
  · rintro ⟨⟨hc, hs, hn⟩, ⟨h12, hsub⟩, ⟨hlen, hmsg⟩, hcl, hln, hgs, hd⟩
    simp only [List.all_eq_true] at hln hgs
    have hat : ∀ y, y ∈ v.ln ++ v.gs → 0 ≤ atR v.sb y := fun y hy => by
      rcases List.mem_append.1 hy with hy | hy
      · have := hln y hy
        simp only [lineI, Bool.and_eq_true, decide_eq_true_eq] at this
        exact this.1
      · have := hgs y hy
        simpa [grantI] using this
    have ho := oldR_ge v
    refine ⟨⟨⟨⟨⟨hc, hs⟩, hn⟩, h12⟩, by omega⟩, hsub, ⟨hlen, few_wait h12 hd hat, hcl⟩, hmsg, ?_⟩
    unfold waitTo
    rw [List.all_eq_true]
    intro i hi
    rw [List.mem_range] at hi
    have hi2 : i < (v.ln ++ v.gs).length := by simpa using hi
    have h1 := hat _ (get_mem hi2)
    have h2 := (dist_iff _).1 hd i hi2
    simp only [waitAt, Bool.and_eq_true, Bool.or_eq_true, decide_eq_true_eq, Bool.not_eq_true']
    refine ⟨h1, h2, ?_⟩
    rcases Nat.lt_or_ge i v.ln.length with h | h
    · right
      have := hln _ (get_mem h)
      simp only [lineI, Bool.and_eq_true, decide_eq_true_eq] at this
      rw [get_left h]
      exact this.2
    · exact .inl h
  · rintro ⟨⟨⟨⟨⟨hc, hs⟩, hn⟩, h12⟩, h16⟩, hsub, ⟨hlen, hfew, hcl⟩, hmsg, hw⟩
    unfold waitTo at hw
    rw [List.all_eq_true] at hw
    have key : ∀ i, i < v.ln.length + v.gs.length → 0 ≤ atR v.sb ((v.ln ++ v.gs).getD i 0) ∧ hasL ((v.ln ++ v.gs).take i) ((v.ln ++ v.gs).getD i 0) = false ∧ (v.ln.length ≤ i ∨ cuR v.sb (atR v.sb ((v.ln ++ v.gs).getD i 0)) = v.se) := fun i hi => by
      have := hw i (List.mem_range.2 hi)
      simpa only [waitAt, Bool.and_eq_true, Bool.or_eq_true, decide_eq_true_eq, Bool.not_eq_true'] using this
    refine ⟨⟨hc, hs, hn⟩, ⟨h12, hsub⟩, ⟨hlen, hmsg⟩, hcl, ?_, ?_, ?_⟩
    · rw [List.all_eq_true]
      intro y hy
      obtain ⟨i, hi, rfl⟩ := get_of hy
      have h := key i (by omega)
      rw [get_left hi] at h
      simp only [lineI, Bool.and_eq_true, decide_eq_true_eq]
      exact ⟨h.1, h.2.2.resolve_left (by omega)⟩
    · rw [List.all_eq_true]
      intro y hy
      obtain ⟨i, hi, rfl⟩ := get_of hy
      have h := key (v.ln.length + i) (by omega)
      rw [get_right (by omega), Nat.add_sub_cancel_left] at h
      simp only [grantI, decide_eq_true_eq]
      exact h.1
    · rw [dist_iff]
      intro i hi
      exact (key i (by simpa using hi)).2.1
end Go.Proofs.YtffpecdjfcgadaaGreatDoor
namespace Go.Proofs.YtffpecdjfcgadaaGreatDoor
open Go.RowKit Pl

theorem l1Plain_any (s : ByteArray) (w : World) (hs : s.size ≤ maxLen) :
    Calls Tryz.prog 74 #[.string s] w fun e w' => e = .returned (.bool (plainB s)) ∧ w' = w := by
  unfold maxLen at hs
  go_enter Tryz.func74, Tryz.ntmps74
  go_wp2
  · go_ret
    exact ⟨ret_bool (plain_long s (by assumption)).symm, rfl⟩
  go_loop [3] (fun i => ∃ k : Nat, k ≤ s.size ∧ i = .int .i64 k ∧ plainL (s.data.toList.take k) = true) (fun i => s.size - (intOf i).toNat)
  case atStart => exact ⟨0, Nat.zero_le _, rfl, rfl⟩
  case round =>
    obtain ⟨k, hk, rfl, hp⟩ := hrel
    by_cases hlt : k < s.size
    · go_wp2
      all_goals first
        | (go_ret; exact ⟨ret_bool (plain_bad s k hlt (good_no _ (by (try simp only [beq_iff_eq] at *); omega))).symm, rfl⟩)
        | (go_round
           case rel => exact ⟨k + 1, by omega, by go_num, plain_step s k hlt hp (good_yes _ (by omega) (by omega) (by (try simp only [beq_eq_false_iff_ne] at *); omega))⟩
           case measure => simp [intOf]; omega)
    · go_wp2
      go_ret
      exact ⟨ret_bool (plain_all s k (by omega) (by omega) hp).symm, rfl⟩

theorem right_text (s : ByteArray) (w : World) (hs : s.size ≤ maxLen) :
    Calls Tryz.prog 166 #[.string s] w fun e w' => e = .returned (.bool (plainB s)) ∧ w' = w := by
  unfold maxLen at hs
  go_enter Tryz.func166, Tryz.ntmps166
  go_wp2
  · go_ret
    exact ⟨ret_bool (plain_long s (by assumption)).symm, rfl⟩
  go_loop [3] (fun i => ∃ k : Nat, k ≤ s.size ∧ i = .int .i64 k ∧ plainL (s.data.toList.take k) = true) (fun i => s.size - (intOf i).toNat)
  case atStart => exact ⟨0, Nat.zero_le _, rfl, rfl⟩
  case round =>
    obtain ⟨k, hk, rfl, hp⟩ := hrel
    by_cases hlt : k < s.size
    · go_wp2
      all_goals first
        | (go_ret; exact ⟨ret_bool (plain_bad s k hlt (good_no _ (by (try simp only [beq_iff_eq] at *); omega))).symm, rfl⟩)
        | (go_round
           case rel => exact ⟨k + 1, by omega, by go_num, plain_step s k hlt hp (good_yes _ (by omega) (by omega) (by (try simp only [beq_eq_false_iff_ne] at *); omega))⟩
           case measure => simp [intOf]; omega)
    · go_wp2
      go_ret
      exact ⟨ret_bool (plain_all s k (by omega) (by omega) hp).symm, rfl⟩

theorem right_num (n : Int) (w : World) :
    Calls Tryz.prog 163 #[.int .i64 n] w fun e w' => e = .returned (.bool (okNum n)) ∧ w' = w := by
  go_enter Tryz.func163, Tryz.ntmps163
  go_wp2
  all_goals go_ret
  all_goals (refine ⟨ret_bool ?_, rfl⟩; simp [okNum]; try omega)

theorem l1In_any (n a b : Int) (w : World) :
    Calls Tryz.prog 15 #[.int .i64 n, .int .i64 a, .int .i64 b] w fun e w' => e = .returned (.bool (decide (a ≤ n) && decide (n ≤ b))) ∧ w' = w := by
  go_enter Tryz.func15, Tryz.ntmps15
  go_wp2
  all_goals go_ret
  all_goals (refine ⟨ret_bool ?_, rfl⟩; simp; try omega)

theorem msg_num (n : Int) (w : World) :
    Calls Tryz.prog 162 #[.int .i64 n] w fun e w' => e = .returned (.agg #[.int .i64 1, .int .i64 n, .string ⟨#[]⟩]) ∧ w' = w.alloc (.cells #[.int .i64 1, .int .i64 n, .string ⟨#[]⟩] 94) := by
  go_enter Tryz.func162, Tryz.ntmps162
  go_wp2
  refine bodyPost_ret (v := .agg #[.int .i64 1, .int .i64 n, .string ⟨#[]⟩]) (by simp [results, Tryz.results162, go_sem]) rfl ⟨rfl, ?_⟩
  rfl

theorem msg_text (s : ByteArray) (w : World) :
    Calls Tryz.prog 165 #[.string s] w fun e w' => e = .returned (.agg #[.int .i64 2, .int .i64 0, .string s]) ∧ w' = w.alloc (.cells #[.int .i64 2, .int .i64 0, .string s] 94) := by
  go_enter Tryz.func165, Tryz.ntmps165
  go_wp2
  refine bodyPost_ret (v := .agg #[.int .i64 2, .int .i64 0, .string s]) (by simp [results, Tryz.results165, go_sem]) rfl ⟨rfl, ?_⟩
  rfl

theorem specMsgOk_any (k n : Int) (s : ByteArray) (w : World) (hs : s.size ≤ maxLen) :
    Calls Tryz.prog 49 #[.agg #[.int .i64 k, .int .i64 n, .string s]] w fun e w' => e = .returned (.bool (okB k n s)) ∧ Below w.heap.size w w' := by
  go_enter Tryz.func49, Tryz.ntmps49
  go_wp2_with (first | (go_at_call 15; refine (l1In_any _ _ _ _).mono ?_; rintro e w' ⟨rfl, rfl⟩) | (go_at_call 74; refine (l1Plain_any _ _ hs).mono ?_; rintro e w' ⟨rfl, rfl⟩))
  · go_ret
    exact ⟨ret_bool (ok_num (by assumption) (by assumption)).symm, bl_alloc (Below.refl _ _) _⟩
  · go_ret
    exact ⟨ret_bool (ok_numNo (by assumption) (by assumption)).symm, bl_alloc (Below.refl _ _) _⟩
  · have hn : n = 0 := by assumption
    subst hn
    go_ret
    exact ⟨ret_bool (ok_text (by assumption) (by assumption)).symm, bl_alloc (Below.refl _ _) _⟩
  · go_ret
    exact ⟨ret_bool (ok_textNo (by assumption) (by assumption) (by assumption)).symm, bl_alloc (Below.refl _ _) _⟩
  · go_ret
    exact ⟨ret_bool (ok_none (by assumption) (by assumption)).symm, bl_alloc (Below.refl _ _) _⟩

end Go.Proofs.YtffpecdjfcgadaaGreatDoor
