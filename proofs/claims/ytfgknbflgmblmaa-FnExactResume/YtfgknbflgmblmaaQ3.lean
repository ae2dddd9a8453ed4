/-
  Walks of the program's queue: made of a list, and looked at.
-/
import Derived.Test.YtfgknbflgmblmaaQ2
namespace Go.Proofs.Ytfgknbflgmblmaa
open Go.RowKit Go.Maps Pl Il

theorem QAt.new (w : World) : QAt w.heap.size ((w.alloc (.map #[] 0)).alloc (.cells #[.slice none 0 0, .map (some w.heap.size)] 106 (0, 0))) (w.heap.size + 1) [] [] := by
  refine ⟨w.heap.size, .slice none 0 0, .map [], ⟨?_, ⟨rfl, .inl ⟨rfl, rfl⟩⟩, ?_, by omega, Nat.le_refl _⟩, Reads.empty⟩
  · have := heap_alloc_new (w.alloc (.map #[] 0)) (.cells #[.slice none 0 0, .map (some w.heap.size)] 106 (0, 0))
    simpa using this
  · exact (World.ownsMap_made w _ _ _).alloc _

theorem queueOf_any (a : Option Addr) (n cap : Nat) (xs : List Int) (w : World) (hI : IntsAt w a n xs) (hn : n ≤ 2097152) (hw : wfL xs) :
    Calls Try.prog 77 #[.slice a n cap] w fun e w' => ∃ qb, e = .returned (.pointer (some ⟨qb, 0, none⟩)) ∧ QAt w.heap.size w' qb xs [] ∧ Below w.heap.size w w' := by
  have hmm := @run_makeMap Try.prog
  have hS := QAt.new w
  have hbS : Below w.heap.size w ((w.alloc (.map #[] 0)).alloc (.cells #[.slice none 0 0, .map (some w.heap.size)] 106 (0, 0))) := bl_alloc (bl_alloc (Below.refl _ _) _) _
  obtain ⟨hlen, rfl | ⟨b, off, rfl, hb, hcell⟩⟩ := hI
  · have hx : xs = [] := List.length_eq_zero_iff.1 hlen
    subst hx
    go_enter Try.func77, Try.ntmps77
    go_wp2
    go_loopw [11] (fun i wr => i = .int .i64 0 ∧ QAt w.heap.size wr (w.heap.size + 1) [] [] ∧ Below w.heap.size w wr) (fun _ _ => 0)
    case atStart => exact ⟨rfl, hS, hbS⟩
    case round =>
      obtain ⟨rfl, hq, hbr⟩ := hrel
      go_wp2
      go_ret
      exact ⟨_, rfl, hq, hbr⟩
  · go_enter Try.func77, Try.ntmps77
    go_wp2
    go_loopw [11] (fun i wr => ∃ k : Nat, k ≤ n ∧ i = .int .i64 k ∧ QAt w.heap.size wr (w.heap.size + 1) (xs.take k) [] ∧ Below w.heap.size w wr) (fun i _ => n - (intOf i).toNat)
    case atStart => exact ⟨0, Nat.zero_le _, rfl, hS, hbS⟩
    case round =>
      rename_i wr
      obtain ⟨k, hk, rfl, hq, hbr⟩ := hrel
      clear hS hbS hmm
      by_cases hlt : k < n
      · have hc : wr.cell? ⟨b, off + k, none⟩ = some (.int .i64 (xs.getD k 0)) := by rw [hbr.cell (p := ⟨b, off + k, none⟩) hb]; exact hcell k hlt
        have hwk := wf_at hw (k := k) (by omega)
        have hcall := join_any w.heap.size (w.heap.size + 1) (xs.take k) (xs.getD k 0) wr hq hwk (by rw [List.length_take]; omega)
        have hst : xs.take k ++ [xs.getD k 0] = xs.take (k + 1) := by
          rw [List.take_succ_eq_append_getElem (by omega)]
          simp [List.getD, List.getElem?_eq_getElem (show k < xs.length by omega)]
        rw [hst] at hcall
        generalize xs.getD k 0 = y at hc hcall
        have HC := hidOf hcall
        clear hcell hcall hq hst
        go_wp2_with fail
        refine (HC.out).mono ?_
        rintro e w1 ⟨rfl, hq1, hb1⟩
        go_wp2
        go_roundw
        case rel => exact ⟨k + 1, by omega, by go_num, hq1, hbr.trans hb1⟩
        case measure => simp [intOf]; omega
      · obtain rfl : k = n := by omega
        clear hcell
        rw [List.take_of_length_le (by omega)] at hq
        go_wp2
        go_ret
        exact ⟨_, rfl, hq, hbr⟩

theorem line_noclient {xs : List Int} {k : Nat} {y : Int} (hk : k < xs.length) (hy : xs.getD k 0 = y) (h : clientL y = false) : lineL xs = false := line_bad hk hy (.inl h)

theorem lineQueue_any (a : Option Addr) (n cap : Nat) (xs : List Int) (w : World) (hI : IntsAt w a n xs) (hn : n ≤ 2097152) (hw : wfL xs) :
    Calls Try.prog 79 #[.slice a n cap] w fun e w' => ∃ p, e = .returned (.tuple #[.pointer p, .bool (lineL xs)]) ∧ (lineL xs = true → ∃ qb, p = some ⟨qb, 0, none⟩ ∧ QAt w.heap.size w' qb xs []) ∧ Below w.heap.size w w' := by
  by_cases h32 : n ≤ 32
  · have h32' : ¬ 32 < (n : Int) := by omega
    have hI0 := hI
    obtain ⟨hlen, rfl | ⟨b, off, rfl, hb, hcell⟩⟩ := hI
    · have hx : xs = [] := List.length_eq_zero_iff.1 hlen
      subst hx
      have HI := hidOf hI0
      clear hI0
      go_enter Try.func79, Try.ntmps79
      go_wp2
      go_loop [12] (fun i => i = .int .i64 0) (fun _ => 0)
      case atStart => rfl
      case round =>
        subst hrel
        go_wp2_with fail
        refine (queueOf_any a 0 cap [] _ HI.out hn hw).mono ?_
        rintro e w1 ⟨qb, rfl, hq, hb1⟩
        obtain ⟨mb, cv, D, hp⟩ := id hq
        have c1 := hp.mem.c1
        have hown := hp.mem.map
        have hsz := hp.rd.size rfl
        have HQ := hidOf hq
        clear hq hp
        go_wp2_with (first
          | (at_len; refine wpList_len_own _ rfl _ 104 rfl 3 3 Try.underlying104 _ mb _ D rfl hown ?_)
          | go_in)
        go_ret2
        refine ⟨some ⟨qb, 0, none⟩, ?_, fun _ => ⟨qb, rfl, HQ.out⟩, hb1⟩
        rfl
    · have HI := hidOf hI0
      clear hI0
      go_enter Try.func79, Try.ntmps79
      go_wp2
      go_loop [12] (fun i => ∃ k : Nat, k ≤ n ∧ i = .int .i64 k ∧ ∀ j, j < k → clientL (xs.getD j 0) = true) (fun i => n - (intOf i).toNat)
      case atStart => exact ⟨0, Nat.zero_le _, rfl, fun j hj => by omega⟩
      case round =>
        obtain ⟨k, hk, rfl, hto⟩ := hrel
        have Hto := hidOf hto
        clear hto
        by_cases hlt : k < n
        · have hc := hcell k hlt
          generalize hy : xs.getD k 0 = y at hc
          have HY := hidOf hy
          clear hy hcell
          go_wp2_with fail
          refine (isClient_any y _).mono ?_
          rintro e w1 ⟨rfl, rfl⟩
          cases hcl : clientL y
          · go_wp2
            go_ret2
            rw [line_noclient (by omega) HY.out hcl]
            exact ⟨none, rfl, fun h => (by cases h), Below.refl _ _⟩
          · go_wp2
            go_round
            case rel => exact ⟨k + 1, by omega, by go_num, fun j hj => by
              by_cases e : j = k
              · subst e; rw [HY.out]; exact hcl
              · exact Hto.out j (by omega)⟩
            case measure => simp [intOf]; omega
        · obtain rfl : k = n := by omega
          clear hcell
          have hd := line_dist (xs := xs) (by omega) (by rw [hlen]; exact Hto.out)
          go_wp2_with fail
          refine (queueOf_any _ k cap xs _ HI.out hn hw).mono ?_
          rintro e w1 ⟨qb, rfl, hq, hb1⟩
          obtain ⟨mb, cv, D, hp⟩ := id hq
          have c1 := hp.mem.c1
          have hown := hp.mem.map
          have hsz := hp.rd.size rfl
          have HQ := hidOf hq
          clear hq hp
          go_wp2_with (first
            | (at_len; refine wpList_len_own _ rfl _ 104 rfl 3 3 Try.underlying104 _ mb _ D rfl hown ?_)
            | go_in)
          go_ret2
          refine ⟨some ⟨qb, 0, none⟩, ?_, fun _ => ⟨qb, rfl, HQ.out⟩, hb1⟩
          rw [hd, hlen]
          refine congrArg (fun b => Ending.returned (.tuple #[.pointer (some ⟨qb, 0, none⟩), .bool b])) ?_
          rw [Bool.eq_iff_iff]
          simp
          omega
  · have h32' : 32 < (n : Int) := by omega
    have hq := line_long (xs := xs) (by rw [hI.len]; exact h32)
    clear hI
    go_enter Try.func79, Try.ntmps79
    go_wp2
    go_ret2
    rw [hq]
    exact ⟨none, rfl, fun h => (by cases h), Below.refl _ _⟩
end Go.Proofs.Ytfgknbflgmblmaa
