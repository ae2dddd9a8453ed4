/-
  Walks of the program's lines: LineOk, PlaceOf, Join, Leave, Wake.
  Walks of Wake, the specification's and the program's.
  The program's waiters: are a line and those that were told right?
  Two lists of numbers, each a row of its own, apart from one another: what appends and stores leave of them.
  What a call on a cell holds on to: the argument's variable, the answer's, a copy's.
  Cells: what one who has been told is answered.
  Walks: which of two messages is ahead.
  What a change makes of a message: plain mathematics.
  Walks: which of two messages is ahead, by the specification's own text.
  Walks of the specification's waiters: are a line and those that were told right?
  Walks of the specification's cells: is one right? A copy of one.
-/
import Derived.Test.YtllpcbdecibloaaZFnChanges4
import Derived.Test.YtllpcbdecibloaaZFnChanges2
import Derived.Test.YtllpcbdecibloaaZFnChanges3
import Derived.Test.YtllpcbdecibloaaZFnChanges1
namespace Go.Proofs.Ytllpcbdecibloaa
open Go.RowKit Go.Maps Pl Il

theorem implLineOk_any (a : Option Addr) (n cap : Nat) (xs : List Int) (w : World) (hI : IntsAt w a n xs) (hn : n ≤ 2097152) (hw : wfL xs) :
    Calls Try.prog 142 #[.slice a n cap] w fun e w' => e = .returned (.bool (lineL xs)) ∧ Below w.heap.size w w' := by
  go_enter Try.func142, Try.ntmps142
  go_wp2_with fail
  refine (lineQueue_any a n cap xs _ hI hn hw).mono ?_
  rintro e w1 ⟨p, rfl, _, hb⟩
  go_wp2
  go_ret
  exact ⟨rfl, hb⟩
theorem implPlaceOf_any (a : Option Addr) (n cap : Nat) (xs : List Int) (x : Int) (w : World) (hI : IntsAt w a n xs) (hn : n ≤ 2097152) (hw : wfL xs) (hx : (Lit.int .i64 x).wf = true) :
    Calls Try.prog 93 #[.slice a n cap, .int .i64 x] w fun e w' => e = .returned (.int .i64 (placeL xs x)) ∧ Below w.heap.size w w' := by
  go_enter Try.func93, Try.ntmps93
  go_wp2_with fail
  refine (queueOf_any a n cap xs _ hI hn hw).mono ?_
  rintro e w1 ⟨qb, rfl, hq, hb⟩
  go_wp2_with fail
  refine (placeOf_any _ qb xs [] x _ hq hx).mono ?_
  rintro e w2 ⟨rfl, rfl⟩
  have hp := place_placeL xs x
  have HP := hidOf hp
  clear hp hq hI
  cases hc : placeG xs [] x with
  | none =>
    go_wp2
    go_ret
    refine ⟨rint ?_, hb⟩
    rw [HP.out, hc]
  | some i =>
    go_wp2
    go_ret
    refine ⟨rint ?_, hb⟩
    rw [HP.out, hc]
/-- A list handed back: in new memory. -/
structure Back (w : World) (a : Option Addr) (n : Nat) (ys : List Int) (w' : World) : Prop where
  own : Il.OwnAt w.heap.size w' a n ys
  below : Below w.heap.size w w'
theorem Back.of {w w1 w2 : World} {a : Option Addr} {n : Nat} {ys : List Int} (h1 : Below w.heap.size w w1) (ho : Il.OwnAt w1.heap.size w2 a n ys) (h2 : Below w1.heap.size w1 w2) : Back w a n ys w2 := ⟨ho.mono h1.size, bl_trans h1 h2⟩

theorem implLeave_any2 (a : Option Addr) (n cap : Nat) (xs : List Int) (x : Int) (w : World) (hI : IntsAt w a n xs) (hn : n ≤ 2097152) (hw : wfL xs) (hx : (Lit.int .i64 x).wf = true) :
    Calls Try.prog 95 #[.slice a n cap, .int .i64 x] w fun e w' => ∃ a' m c', e = .returned (.tuple #[.slice a' m c', .int .i64 (leaveL xs x).2]) ∧ Back w a' m (leaveL xs x).1 w' ∧ m ≤ c' := by
  have hlen := hI.len
  go_enter Try.func95, Try.ntmps95
  go_wp2_with fail
  refine (lineQueue_any a n cap xs _ hI hn hw).mono ?_
  rintro e w1 ⟨p, rfl, hq, hb⟩
  have HI := hidOf (hI.keep hb)
  clear hI
  cases hl : lineL xs
  · clear hq
    go_wp2_with fail
    refine (copied_any2 a n cap xs _ HI.out hn).mono ?_
    rintro e w2 ⟨a', c', rfl, ho, hb2, hcp⟩
    have HB := hidOf (Back.of hb ho hb2)
    clear ho hb2
    go_wp2
    go_ret2
    rw [leave_bad hl]
    exact ⟨_, _, _, rfl, HB.out, hcp⟩
  · obtain ⟨qb, rfl, hQ⟩ := hq hl
    have hnd := nodup_line hl
    have h32 := line_len hl
    go_wp2_with fail
    refine (placeOf_any _ qb xs [] x _ hQ hx).mono ?_
    rintro e w3 ⟨rfl, rfl⟩
    have hs := place_isSome xs x
    generalize hgp : placeG xs [] x = pp at hs
    cases hh : hasL xs x
    · rw [hh] at hs
      go_wp2_with fail
      refine (copied_any2 a n cap xs _ HI.out hn).mono ?_
      rintro e w4 ⟨a', c', rfl, ho, hb2, hcp⟩
      have HB := hidOf (Back.of hb ho hb2)
      clear ho hb2 hQ
      go_wp2
      go_ret2
      rw [leave_none hl hh]
      exact ⟨_, _, _, rfl, HB.out, hcp⟩
    · rw [hh] at hs
      go_wp2_with fail
      refine (leave_any _ qb xs [] x _ hQ hx).mono ?_
      rintro e w4 ⟨rfl, hQ4, hb4⟩
      have hS := standing_any _ qb xs [x] w4 hQ4 hw (by omega)
      rw [stand_less hnd x] at hS
      have HS := hidOf hS
      clear hS hQ4 hQ
      go_wp2_with fail
      refine HS.out.mono ?_
      rintro e w5 ⟨v, rfl, ho, hb5⟩
      obtain ⟨a', c', rfl, hO⟩ := own_of ho _ rfl
      have hcp := own_cap ho
      have HB := hidOf (Back.of (hb.trans hb4) hO hb5)
      clear ho hO
      go_wp2
      go_ret2
      rw [leave_done hl hh]
      exact ⟨_, _, _, rfl, HB.out, hcp⟩
theorem implLeave_any (a : Option Addr) (n cap : Nat) (xs : List Int) (x : Int) (w : World) (hI : IntsAt w a n xs) (hn : n ≤ 2097152) (hw : wfL xs) (hx : (Lit.int .i64 x).wf = true) :
    Calls Try.prog 95 #[.slice a n cap, .int .i64 x] w fun e w' => ∃ a' m c', e = .returned (.tuple #[.slice a' m c', .int .i64 (leaveL xs x).2]) ∧ Back w a' m (leaveL xs x).1 w' :=
  (implLeave_any2 a n cap xs x w hI hn hw hx).mono fun _ _ ⟨a', m, c', h1, h2, _⟩ => ⟨a', m, c', h1, h2⟩
end Go.Proofs.Ytllpcbdecibloaa
namespace Go.Proofs.Ytllpcbdecibloaa
open Go.RowKit Go.Maps Pl Il

/-- What Wake leaves of the line. -/
def wakeRest (xs : List Int) (k : Int) : List Int := if lineL xs && decide (0 ≤ k) then xs.drop (wakeN xs k) else xs
/-- Whom Wake wakes. -/
def wakeOut (xs : List Int) (k : Int) : List Int := if lineL xs && decide (0 ≤ k) then xs.take (wakeN xs k) else []
theorem wake_bad {xs : List Int} {k : Int} (h : lineL xs = false ∨ k < 0) : wakeRest xs k = xs ∧ wakeOut xs k = [] := by
  rcases h with h | h
  · simp [wakeRest, wakeOut, h]
  · have : ¬ 0 ≤ k := by omega
    simp [wakeRest, wakeOut, this]
theorem wake_good {xs : List Int} {k : Int} (h : lineL xs = true) (hk : 0 ≤ k) : wakeRest xs k = xs.drop (wakeN xs k) ∧ wakeOut xs k = xs.take (wakeN xs k) := by
  simp [wakeRest, wakeOut, h, hk]

/-- Two lists that the call has made, apart from one another. -/
structure Apart (w : World) (a1 : Option Addr) (m1 : Nat) (ys : List Int) (a2 : Option Addr) (m2 : Nat) (zs : List Int) (w' : World) : Prop where
  one : Il.OwnAt w.heap.size w' a1 m1 ys
  two : Il.OwnAt w.heap.size w' a2 m2 zs
  apart : m1 = 0 ∨ m2 = 0 ∨ ∀ b off b' off', a1 = some ⟨b, off, none⟩ → a2 = some ⟨b', off', none⟩ → b ≠ b'
  below : Below w.heap.size w w'
theorem implWake_any2 (a : Option Addr) (n cap : Nat) (xs : List Int) (k : Int) (w : World) (hI : IntsAt w a n xs) (hn : n ≤ 2097152) (hw : wfL xs) :
    Calls Try.prog 152 #[.slice a n cap, .int .i64 k] w fun e w' => ∃ a1 m1 c1 a2 m2 c2, e = .returned (.tuple #[.slice a1 m1 c1, .slice a2 m2 c2]) ∧ Apart w a1 m1 (wakeRest xs k) a2 m2 (wakeOut xs k) w' ∧ m1 ≤ c1 := by
  have hlen := hI.len
  go_enter Try.func152, Try.ntmps152
  go_wp2_with fail
  refine (lineQueue_any a n cap xs _ hI hn hw).mono ?_
  rintro e w1 ⟨p, rfl, hq, hb⟩
  have HI := hidOf (hI.keep hb)
  clear hI
  cases hl : lineL xs
  · clear hq
    go_wp2_with fail
    refine (copied_any2 a n cap xs _ HI.out hn).mono ?_
    rintro e w2 ⟨a', c', rfl, ho, hb2, hcp⟩
    have HB := hidOf (Back.of hb ho hb2)
    have HW := hidOf (wake_bad (k := k) (.inl hl))
    clear ho hb2
    go_wp2
    go_ret2
    rw [HW.out.1, HW.out.2]
    exact ⟨_, _, _, _, _, _, rfl, ⟨HB.out.own, ⟨⟨rfl, .inl rfl⟩, .inl rfl⟩, .inr (.inl rfl), HB.out.below⟩, hcp⟩
  · obtain ⟨qb, rfl, hQ⟩ := hq hl
    have hnd := nodup_line hl
    have h32 := line_len hl
    by_cases hk : k < 0
    · have HW := hidOf (wake_bad (xs := xs) (.inr hk))
      clear hQ hq
      go_wp2_with fail
      refine (copied_any2 a n cap xs _ HI.out hn).mono ?_
      rintro e w2 ⟨a', c', rfl, ho, hb2, hcp⟩
      have HB := hidOf (Back.of hb ho hb2)
      clear ho hb2
      go_wp2
      go_ret2
      rw [HW.out.1, HW.out.2]
      exact ⟨_, _, _, _, _, _, rfl, ⟨HB.out.own, ⟨⟨rfl, .inl rfl⟩, .inl rfl⟩, .inr (.inl rfl), HB.out.below⟩, hcp⟩
    · have hk0 : 0 ≤ k := by omega
      have HW := hidOf (wake_good hl hk0)
      have hwk := wake_any _ qb xs (wakeN xs k) w1 hQ hw hnd h32 (wakeN_le xs k hk0) k (by
        by_cases h : k > (xs.length : Int)
        · right; rw [wakeN_over h]; omega
        · left; rw [wakeN_in h]; omega)
      have HWk := hidOf hwk
      clear hwk hQ hq
      go_wp2_with fail
      refine HWk.out.mono ?_
      rintro e w2 ⟨a2, c2, rfl, ho2, hQ2, hb2⟩
      have hS := standing_any _ qb xs (xs.take (wakeN xs k)) w2 hQ2 hw (by omega)
      rw [stand_rest hnd] at hS
      have HS := hidOf hS
      have HO2 := hidOf ho2
      clear hS hQ2 HWk ho2
      generalize wakeN xs k = m at *
      go_wp2_with fail
      refine HS.out.mono ?_
      rintro e w3 ⟨v, rfl, ho, hb3⟩
      generalize (xs.drop m).length = ml at ho
      obtain ⟨a1, c1, rfl, hO⟩ := own_of ho _ rfl
      have hcp := own_cap ho
      have hb12 : Below w.heap.size w w2 := hb.trans hb2
      have hAp : Apart w a1 ml (xs.drop m) a2 m (xs.take m) w3 := by
        refine ⟨hO.mono hb12.size, (HO2.out.keep hb3).mono hb.size, ?_, bl_trans hb12 hb3⟩
        rcases hO.own with h0 | ⟨b, off, rfl, hB, _⟩
        · exact .inl h0
        · rcases HO2.out.ints.row with h0 | ⟨b', off', rfl, hlt, _⟩
          · exact .inr (.inl h0)
          · refine .inr (.inr fun x ox y oy e e' => ?_)
            cases e; cases e'
            omega
      have HB := hidOf hAp
      clear ho hO hAp
      go_wp2
      go_ret2
      rw [HW.out.1, HW.out.2]
      exact ⟨_, _, _, _, _, _, rfl, HB.out, hcp⟩
theorem implWake_any (a : Option Addr) (n cap : Nat) (xs : List Int) (k : Int) (w : World) (hI : IntsAt w a n xs) (hn : n ≤ 2097152) (hw : wfL xs) :
    Calls Try.prog 152 #[.slice a n cap, .int .i64 k] w fun e w' => ∃ a1 m1 c1 a2 m2 c2, e = .returned (.tuple #[.slice a1 m1 c1, .slice a2 m2 c2]) ∧ Apart w a1 m1 (wakeRest xs k) a2 m2 (wakeOut xs k) w' :=
  (implWake_any2 a n cap xs k w hI hn hw).mono fun _ _ ⟨a1, m1, c1, a2, m2, c2, h1, h2, _⟩ => ⟨a1, m1, c1, a2, m2, c2, h1, h2⟩
end Go.Proofs.Ytllpcbdecibloaa
namespace Go.Proofs.Ytllpcbdecibloaa
open Go.RowKit Go.Maps Pl Il

theorem ownsRow_keep {B : Nat} {w w' : World} {v : Value} {n s : Nat} {t : TypeId} {xs : List Value} (h : w.ownsRow B t s v n xs) (hb : Below w.heap.size w w') : w'.ownsRow B t s v n xs := by
  obtain ⟨hl, hn | ⟨g, cap, cur, rfl, hB, hg, hr⟩⟩ := h
  · exact ⟨hl, .inl hn⟩
  · have hlt : g < w.heap.size := by
      rcases Nat.lt_or_ge g w.heap.size with k | k
      · exact k
      · rw [Array.getElem?_eq_none k] at hg; cases hg
    exact ⟨hl, .inr ⟨g, cap, cur, rfl, hB, by rw [hb.block g hlt]; exact hg, hr⟩⟩
theorem isCount_any (x : Int) (w : World) :
    Calls Try.prog 74 #[.int .i64 x] w fun e w' => e = .returned (.bool (cnt x)) ∧ w' = w := by
  go_enter Try.func74, Try.ntmps74
  go_wp2
  all_goals go_ret
  all_goals (refine ⟨rbool ?_, rfl⟩; simp [cnt]; try omega)
theorem waitersOk_any (a : Option Addr) (n cap : Nat) (ls : List Int) (a' : Option Addr) (n' cap' : Nat) (ts : List Int) (w : World) (hI : IntsAt w a n ls) (hJ : IntsAt w a' n' ts) (hn : n ≤ 2097152) (hn' : n' ≤ 2097152) (hw : wfL ls) (hw' : wfL ts) :
    Calls Try.prog 109 #[.slice a n cap, .slice a' n' cap'] w fun e w' => e = .returned (.bool (waitL ls ts)) ∧ Below w.heap.size w w' := by
  go_enter Try.func109, Try.ntmps109
  go_wp2_with fail
  refine (lineQueue_any a n cap ls _ hI hn hw).mono ?_
  rintro e w1 ⟨p, rfl, hq, hb1⟩
  cases h1 : lineL ls
  · clear hq
    go_wp2
    go_ret
    exact ⟨rbool (by simp [waitL, h1]), hb1⟩
  · obtain ⟨qb, rfl, hQ⟩ := hq h1
    go_wp2_with fail
    refine (implLineOk_any a' n' cap' ts _ (hJ.keep hb1) hn' hw').mono ?_
    rintro e w2 ⟨rfl, hb2⟩
    have hB2 := bl_trans hb1 hb2
    cases h2 : lineL ts
    · clear hq hQ
      go_wp2
      go_ret
      exact ⟨rbool (by simp [waitL, h2]), hB2⟩
    · have HQ := hidOf (hQ)
      have H1 := hidOf h1
      have H2 := hidOf h2
      have HB2 := hidOf hB2
      have hQ2 : QAt w.heap.size w2 qb ls [] := QAt.keep hQ hb2
      have HQ2 := hidOf hQ2
      have hJ2 := hJ.keep hB2
      clear hq hQ hQ2 HQ hI hJ h1 h2 hB2 hb1
      obtain ⟨hlen, h0 | ⟨b, off, rfl, hb, hcell⟩⟩ := hJ2
      · subst h0
        have : ts = [] := List.length_eq_zero_iff.1 hlen
        subst this
        go_wp2_with fail
        go_loop [25] (fun i => i = .int .i64 0) (fun _ => 0)
        case atStart => rfl
        case round =>
          subst hrel
          go_wp2
          go_ret
          exact ⟨rbool (by simp [waitL, H1.out, H2.out, apartL]), HB2.out⟩
      · have HL := hidOf hlen
        clear hlen
        go_wp2_with fail
        go_loop [25] (fun i => ∃ k : Nat, k ≤ n' ∧ i = .int .i64 k ∧ apartL ls (ts.take k) = true) (fun i => n' - (intOf i).toNat)
        case atStart => exact ⟨0, Nat.zero_le _, rfl, rfl⟩
        case round =>
          obtain ⟨k, hk, rfl, hap⟩ := hrel
          have HAp := hidOf hap
          clear hap
          by_cases hlt : k < n'
          · have hc := hcell k hlt
            have hkl : k < ts.length := by rw [HL.out]; exact hlt
            have hwf := wf_at hw' (k := k) hkl
            generalize hy : ts.getD k 0 = y at hc hwf
            have HY := hidOf hy
            have hki : (0 : Int) ≤ (k : Int) ∧ (k : Int) < (n' : Int) := by omega
            have hps := place_isSome ls y
            have HPs := hidOf hps
            clear hy hcell hps
            cases hpl : placeG ls [] y with
            | none =>
              go_wp2_with (go_at_call 133; refine (placeOf_any _ qb ls [] y _ HQ2.out hwf).mono ?_; rintro e w3 ⟨rfl, rfl⟩; rw [hpl])
              go_round
              case rel => exact ⟨k + 1, by omega, by go_num, apart_step hkl HY.out HAp.out (by rw [← HPs.out, hpl]; rfl)⟩
              case measure => simp [intOf]; omega
            | some j =>
              go_wp2_with (go_at_call 133; refine (placeOf_any _ qb ls [] y _ HQ2.out hwf).mono ?_; rintro e w3 ⟨rfl, rfl⟩; rw [hpl])
              go_ret
              exact ⟨rbool (by rw [waitL, apart_bad hkl HY.out (by rw [← HPs.out, hpl]; rfl)]; simp), HB2.out⟩
          · obtain rfl : k = n' := by omega
            clear hcell
            go_wp2
            go_ret
            exact ⟨rbool (by rw [waitL, H1.out, H2.out, apart_end (by rw [HL.out]; exact Nat.le_refl _) HAp.out]; rfl), HB2.out⟩
end Go.Proofs.Ytllpcbdecibloaa
namespace Go.Proofs.Ytllpcbdecibloaa
open Go.RowKit Go.Maps Pl Il

abbrev intsV (xs : List Int) : List Value := xs.map (Value.int .i64)
/-- The two lists. -/
structure Rows2 (B : Nat) (w : World) (A : Na) (ln gs : List Int) : Prop where
  one : w.ownsRow B 3 1 (.slice A.a A.n A.c) A.n (intsV ln)
  two : w.ownsRow B 3 1 (.slice A.a' A.n' A.c') A.n' (intsV gs)
  ne : ∀ q, (Value.slice A.a A.n A.c).ownBlock = some q → (Value.slice A.a' A.n' A.c').ownBlock ≠ some q
section
variable {B B' : Nat} {w w' : World} {A : Na} {ln gs : List Int}
theorem row_set {v : Value} {n : Nat} {xs : List Value} (h : w.ownsRow B 3 1 v n xs) (N o : Nat) (hne : v.ownBlock ≠ some N) (x : Value) : (w.setCell ⟨N, o, none⟩ x).ownsRow B 3 1 v n xs := by
  refine h.kept (row := some N) ⟨rfl, rfl, rfl, by simp, fun k _ hk => Below.heap_setCell _ _ _ _ (by rintro rfl; exact hk rfl)⟩ ?_
  cases e : v.ownBlock with
  | none => exact .inl rfl
  | some q => exact .inr (fun e' => hne (by rw [e, e']))
theorem row_grown {v : Value} {n : Nat} {xs : List Value} (h : w.ownsRow B 3 1 v n xs) {g : Option Nat} (hg : w.grownBy w' g) (hne : ∀ q, g = some q → v.ownBlock ≠ some q) : w'.ownsRow B 3 1 v n xs := by
  refine h.kept (row := g) hg ?_
  cases e : v.ownBlock with
  | none => exact .inl rfl
  | some q => exact .inr (fun e' => hne q e'.symm e)
theorem row_mono {v : Value} {n : Nat} {xs : List Value} (h : w.ownsRow B 3 1 v n xs) (hb : B' ≤ B) : w.ownsRow B' 3 1 v n xs :=
  ⟨h.1, h.2.imp id fun ⟨g, cap, cur, h1, h2, h3⟩ => ⟨g, cap, cur, h1, Nat.le_trans hb h2, h3⟩⟩
theorem row_below {v : Value} {n : Nat} {xs : List Value} (h : w.ownsRow B 3 1 v n xs) (hb : Below w.heap.size w w') : w'.ownsRow B 3 1 v n xs := ownsRow_keep h hb
theorem row_own {a : Option Addr} {n c : Nat} {xs : List Int} (h : w.ownsRow B 3 1 (.slice a n c) n (intsV xs)) : Il.OwnAt B w a n xs ∧ n ≤ c := by
  have hcp := own_cap h
  obtain ⟨a', c', e, ho⟩ := own_of h xs rfl
  injection e with e1 _ _
  subst e1
  exact ⟨ho, hcp⟩
theorem Rows2.keep (h : Rows2 B w A ln gs) (hb : Below w.heap.size w w') : Rows2 B w' A ln gs := ⟨row_below h.one hb, row_below h.two hb, h.ne⟩
theorem Rows2.mono (h : Rows2 B w A ln gs) (hB : B' ≤ B) : Rows2 B' w A ln gs := ⟨row_mono h.one hB, row_mono h.two hB, h.ne⟩
theorem Rows2.set (h : Rows2 B w A ln gs) (N o : Nat) (h1 : (Value.slice A.a A.n A.c).ownBlock ≠ some N) (h2 : (Value.slice A.a' A.n' A.c').ownBlock ≠ some N) (x : Value) : Rows2 B (w.setCell ⟨N, o, none⟩ x) A ln gs := ⟨row_set h.one N o h1 x, row_set h.two N o h2 x, h.ne⟩
theorem Rows2.far (h : Rows2 B w A ln gs) (N o : Nat) (hN : N < B) (x : Value) : Rows2 B (w.setCell ⟨N, o, none⟩ x) A ln gs :=
  h.set N o (fun e => by have := (h.one.lt N e).1; omega) (fun e => by have := (h.two.lt N e).1; omega) x
theorem Rows2.ok (h : Rows2 B w A ln gs) : A.ok := ⟨(row_own h.one).2, (row_own h.two).2⟩
theorem Rows2.len (h : Rows2 B w A ln gs) : ln.length = A.n ∧ gs.length = A.n' := ⟨(row_own h.one).1.ints.len, (row_own h.two).1.ints.len⟩
theorem own_block {v : Value} {b off : Nat} {n c : Nat} (h : v = .slice (some ⟨b, off, none⟩) n c) : v.ownBlock = some b := by rw [h]; rfl
theorem Rows2.parts (h : Rows2 B w A ln gs) : Il.OwnAt B w A.a A.n ln ∧ Il.OwnAt B w A.a' A.n' gs ∧ (A.n = 0 ∨ A.n' = 0 ∨ ∀ b off b' off', A.a = some ⟨b, off, none⟩ → A.a' = some ⟨b', off', none⟩ → b ≠ b') := by
  refine ⟨(row_own h.one).1, (row_own h.two).1, .inr (.inr fun b off b' off' e e' hbb => ?_)⟩
  subst hbb
  exact h.ne b (by rw [e]; rfl) (by rw [e']; rfl)
end
/-- More numbers behind an own row. -/
theorem append_ownS (B m : Nat) (v : Value) (ys : List Int) (a : Option Addr) (n cap : Nat) (xs : List Int) (w : World) (ho : w.ownsRow B 3 1 v m (intsV ys)) (hB : B ≤ w.heap.size) (hI : IntsAt w a n xs) (hs : m + n ≤ 4194304) :
    ∃ (a' : Option Addr) (c' : Nat) (w' : World), (Builtin.append_ #[35, 35] 35 #[v, .slice a n cap]).run Try.prog w = .ok (.slice a' (m + n) c') w' ∧ w'.ownsRow B 3 1 (.slice a' (m + n) c') (m + n) (intsV (ys ++ xs)) ∧ w.grownBy w' v.ownBlock ∧
      (∀ q, (Value.slice a' (m + n) c').ownBlock = some q → v.ownBlock = some q ∨ w.heap.size ≤ q) := by
  obtain ⟨i, hi, hz0, hz1, hz2⟩ := info_parts info3
  obtain ⟨av, cv, hv, _⟩ := own_of ho ys rfl
  subst hv
  have hcp := own_cap ho
  obtain ⟨hlen, h0⟩ := hI
  rcases Nat.eq_zero_or_pos n with rfl | hpos
  · have hx : xs = [] := List.length_eq_zero_iff.1 hlen
    subst hx
    refine ⟨av, cv, w, run_append_nothing w 35 35 35 3 i Try.underlying35 hi av m cv hcp _ ?_, by rw [List.append_nil]; exact ho, ⟨rfl, rfl, rfl, Nat.le_refl _, fun _ _ _ => rfl⟩, fun q e => .inl e⟩
    rcases a with _ | ad
    · exact Src.ofNil _ Try.underlying35 cap
    · exact Src.ofSlice _ Try.underlying35 ad 0 cap [] (by simp) (fun j u h => by simp at h) (fun u h => by cases h)
  · rcases h0 with h0 | ⟨b, off, rfl, hb, hcell⟩
    · omega
    · obtain ⟨g', c', w', hr, hown, hgrow, hl, _⟩ := run_append_lies (P := Try.prog) w 35 35 B 3 i (.int .i64 0) 1 8 Try.underlying35 hi hz0 hz1 hz2 rfl (by omega) _ m _ ho ⟨b, off, none⟩ n cap (xs.map (Value.int .i64)) (by simp [hlen])
        (fun j u h => by
          rw [Addr.add_lit]
          have hj : j < n := by
            have := (List.getElem?_eq_some_iff.1 h).1
            simpa [hlen] using this
          rw [hcell j hj]
          simp only [List.getElem?_map] at h
          rw [List.getElem?_eq_getElem (by omega)] at h
          simp only [Option.map_some, Option.some.injEq] at h
          rw [← h]
          simp [List.getD, List.getElem?_eq_getElem (show j < xs.length by omega)])
        (fun u hu => by obtain ⟨_, _, rfl⟩ := List.mem_map.1 hu; rfl) hpos (by unfold maxLen; omega) (by omega) hB _ rfl
      refine ⟨_, c', w', hr, by rw [← List.map_append] at hown; exact hown, hgrow, fun q e => ?_⟩
      have e' : g' = q := by simpa [Value.ownBlock] using e
      subst e'
      rcases hl with h | h
      · exact .inl h
      · right; omega
end Go.Proofs.Ytllpcbdecibloaa
namespace Go.Proofs.Ytllpcbdecibloaa
open Go.RowKit Pl Il

/-- The argument's variable, the answer's. -/
structure CCtx (w : World) (A : Na) (x : Ct) (u : World) : Prop where
  box0 : CBox w.heap.size A x u
  box1 : CBox (w.heap.size + 1) Na.zero Ct.zero u
  nin : CIn w A x
  below : Below w.heap.size w u
  sz : w.heap.size + 2 ≤ u.heap.size
section
variable {w : World} {A : Na} {x : Ct} {u u' : World}
theorem CCtx.keep {B : Nat} (h : CCtx w A x u) (hb : Below B u u') (hB : w.heap.size + 2 ≤ B) : CCtx w A x u' :=
  ⟨h.box0.below hb (by omega), h.box1.below hb (by omega), h.nin, h.below.trans (hb.mono (by omega)), Nat.le_trans h.sz hb.size⟩
theorem CCtx.kp (h : CCtx w A x u) (hb : Below u.heap.size u u') : CCtx w A x u' := h.keep hb h.sz
theorem CCtx.ninX (h : CCtx w A x u) : CIn u A x := h.nin.keep h.below
theorem cctx_new (hI : CIn w A x) : CCtx w A x ((w.alloc (.cells #[.int .i64 x.kd, .int .i64 x.nu, .string x.tx, .int .i64 x.ve, .bool x.cl, .slice A.a A.n A.c, .slice A.a' A.n' A.c'] 37)).alloc (.cells #[.int .i64 0, .int .i64 0, .string ⟨#[]⟩, .int .i64 0, .bool false, .slice none 0 0, .slice none 0 0] 37)) := by
  have s0 : (w.alloc (.cells #[.int .i64 x.kd, .int .i64 x.nu, .string x.tx, .int .i64 x.ve, .bool x.cl, .slice A.a A.n A.c, .slice A.a' A.n' A.c'] 37)).heap.size = w.heap.size + 1 := by simp
  refine ⟨(CBox.new w A x _).alloc _, by rw [← s0]; exact CBox.newZ _ _, hI, bl_alloc (bl_alloc (Below.refl _ _) _) _, by simp⟩
theorem Rows2.cown {B : Nat} (h : Rows2 B u A x.ln x.gs) (ht : x.tx.size ≤ maxLen) : COwn B u A x := ⟨h.parts.1, h.parts.2.1, h.parts.2.2, ht⟩
theorem cst_fin {A' : Na} {y : Ct} (hC : CCtx w A x u) (hR : Rows2 (w.heap.size + 2) u A' y.ln y.gs) (ht : y.tx.size ≤ maxLen) :
    COwn w.heap.size (((((((u.setCell ⟨w.heap.size + 1, 0, none⟩ (.int .i64 y.kd)).setCell ⟨w.heap.size + 1, 1, none⟩ (.int .i64 y.nu)).setCell ⟨w.heap.size + 1, 2, none⟩ (.string y.tx)).setCell ⟨w.heap.size + 1, 3, none⟩ (.int .i64 y.ve)).setCell ⟨w.heap.size + 1, 4, none⟩ (.bool y.cl)).setCell ⟨w.heap.size + 1, 5, none⟩ (.slice A'.a A'.n A'.c)).setCell ⟨w.heap.size + 1, 6, none⟩ (.slice A'.a' A'.n' A'.c')) A' y ∧ A'.ok ∧ Below w.heap.size w (((((((u.setCell ⟨w.heap.size + 1, 0, none⟩ (.int .i64 y.kd)).setCell ⟨w.heap.size + 1, 1, none⟩ (.int .i64 y.nu)).setCell ⟨w.heap.size + 1, 2, none⟩ (.string y.tx)).setCell ⟨w.heap.size + 1, 3, none⟩ (.int .i64 y.ve)).setCell ⟨w.heap.size + 1, 4, none⟩ (.bool y.cl)).setCell ⟨w.heap.size + 1, 5, none⟩ (.slice A'.a A'.n A'.c)).setCell ⟨w.heap.size + 1, 6, none⟩ (.slice A'.a' A'.n' A'.c')) :=
  ⟨((hR.cown ht).farA (w.heap.size + 1) (by omega) _ _ _ _ _ _ _).mono (by omega), hR.ok, bl_sC hC.below (w.heap.size + 1) (by omega) _ _ _ _ _ _ _⟩
theorem cst_finT {A' : Na} {y : Ct} {a : Option Addr} {m : Nat} {l : List Int} (hC : CCtx w A x u) (hR : Rows2 (w.heap.size + 2) u A' y.ln y.gs) (ht : y.tx.size ≤ maxLen) (hL : Il.OwnAt (w.heap.size + 2) u a m l) :
    COwn w.heap.size (((((((u.setCell ⟨w.heap.size + 1, 0, none⟩ (.int .i64 y.kd)).setCell ⟨w.heap.size + 1, 1, none⟩ (.int .i64 y.nu)).setCell ⟨w.heap.size + 1, 2, none⟩ (.string y.tx)).setCell ⟨w.heap.size + 1, 3, none⟩ (.int .i64 y.ve)).setCell ⟨w.heap.size + 1, 4, none⟩ (.bool y.cl)).setCell ⟨w.heap.size + 1, 5, none⟩ (.slice A'.a A'.n A'.c)).setCell ⟨w.heap.size + 1, 6, none⟩ (.slice A'.a' A'.n' A'.c')) A' y ∧ A'.ok ∧ Il.OwnAt w.heap.size (((((((u.setCell ⟨w.heap.size + 1, 0, none⟩ (.int .i64 y.kd)).setCell ⟨w.heap.size + 1, 1, none⟩ (.int .i64 y.nu)).setCell ⟨w.heap.size + 1, 2, none⟩ (.string y.tx)).setCell ⟨w.heap.size + 1, 3, none⟩ (.int .i64 y.ve)).setCell ⟨w.heap.size + 1, 4, none⟩ (.bool y.cl)).setCell ⟨w.heap.size + 1, 5, none⟩ (.slice A'.a A'.n A'.c)).setCell ⟨w.heap.size + 1, 6, none⟩ (.slice A'.a' A'.n' A'.c')) a m l ∧ Below w.heap.size w (((((((u.setCell ⟨w.heap.size + 1, 0, none⟩ (.int .i64 y.kd)).setCell ⟨w.heap.size + 1, 1, none⟩ (.int .i64 y.nu)).setCell ⟨w.heap.size + 1, 2, none⟩ (.string y.tx)).setCell ⟨w.heap.size + 1, 3, none⟩ (.int .i64 y.ve)).setCell ⟨w.heap.size + 1, 4, none⟩ (.bool y.cl)).setCell ⟨w.heap.size + 1, 5, none⟩ (.slice A'.a A'.n A'.c)).setCell ⟨w.heap.size + 1, 6, none⟩ (.slice A'.a' A'.n' A'.c')) :=
  ⟨(cst_fin hC hR ht).1, hR.ok, ((((((((hL.far (w.heap.size + 1) 0 (by omega) _).far (w.heap.size + 1) 1 (by omega) _).far (w.heap.size + 1) 2 (by omega) _).far (w.heap.size + 1) 3 (by omega) _).far (w.heap.size + 1) 4 (by omega) _).far (w.heap.size + 1) 5 (by omega) _).far (w.heap.size + 1) 6 (by omega) _).mono (by omega)), bl_sC hC.below (w.heap.size + 1) (by omega) _ _ _ _ _ _ _⟩
end
/-- A copy in a variable of its own. -/
structure CSt (B N : Nat) (A : Na) (x : Ct) (w : World) : Prop where
  box : CBox N A x w
  ge : B ≤ N
  rows : Rows2 B w A x.ln x.gs
  ne1 : (Value.slice A.a A.n A.c).ownBlock ≠ some N
  ne2 : (Value.slice A.a' A.n' A.c').ownBlock ≠ some N
theorem cst_new {B : Nat} {A : Na} {x : Ct} {w : World} (h : Rows2 B w A x.ln x.gs) (hB : B ≤ w.heap.size) : CSt B w.heap.size A x (w.alloc (.cells #[.int .i64 x.kd, .int .i64 x.nu, .string x.tx, .int .i64 x.ve, .bool x.cl, .slice A.a A.n A.c, .slice A.a' A.n' A.c'] 37)) :=
  ⟨CBox.new w A x _, hB, h.keep (bl_alloc (Below.refl _ _) _), fun e => Nat.lt_irrefl _ (h.one.lt _ e).2, fun e => Nat.lt_irrefl _ (h.two.lt _ e).2⟩
section
variable {B N : Nat} {A : Na} {x y : Ct} {w u : World}
theorem CSt.keep (h : CSt B N A x w) (hb : Below w.heap.size w u) : CSt B N A x u := ⟨h.box.keep hb, h.ge, h.rows.keep hb, h.ne1, h.ne2⟩
theorem CSt.setc (h : CSt B N A x w) (o : Nat) (v : Value) (hb : CBox N A y (w.setCell ⟨N, o, none⟩ v)) (h1 : y.ln = x.ln) (h2 : y.gs = x.gs) : CSt B N A y (w.setCell ⟨N, o, none⟩ v) :=
  ⟨hb, h.ge, by rw [h1, h2]; exact h.rows.set N o h.ne1 h.ne2 v, h.ne1, h.ne2⟩
theorem CSt.line {a : Option Addr} {n c : Nat} {xs : List Int} (h : CSt B N A x w) (hr : w.ownsRow B 3 1 (.slice a n c) n (intsV xs)) (h1 : (Value.slice a n c).ownBlock ≠ some N) (h2 : ∀ q, (Value.slice a n c).ownBlock = some q → (Value.slice A.a' A.n' A.c').ownBlock ≠ some q) :
    CSt B N { A with a := a, n := n, c := c } { x with ln := xs } (w.setCell ⟨N, 5, none⟩ (.slice a n c)) :=
  ⟨h.box.set5.lists xs x.gs, h.ge, ⟨row_set hr N _ h1 _, row_set h.rows.two N _ h.ne2 _, h2⟩, h1, h.ne2⟩
theorem CSt.told {a : Option Addr} {n c : Nat} {xs : List Int} (h : CSt B N A x w) (hr : w.ownsRow B 3 1 (.slice a n c) n (intsV xs)) (h1 : (Value.slice a n c).ownBlock ≠ some N) (h2 : ∀ q, (Value.slice A.a A.n A.c).ownBlock = some q → (Value.slice a n c).ownBlock ≠ some q) :
    CSt B N { A with a' := a, n' := n, c' := c } { x with gs := xs } (w.setCell ⟨N, 6, none⟩ (.slice a n c)) :=
  ⟨h.box.set6.lists x.ln xs, h.ge, ⟨row_set h.rows.one N _ h.ne1 _, row_set hr N _ h1 _, h2⟩, h.ne1, h1⟩
end
end Go.Proofs.Ytllpcbdecibloaa
namespace Go.Proofs.Ytllpcbdecibloaa
open Go.RowKit Pl Il

theorem Pl.Box3.below {N B : Nat} {v0 v1 v2 : Value} {w u : World} (h : Box3 N v0 v1 v2 w) (hb : Below B w u) (hN : N < B) : Box3 N v0 v1 v2 u where
  lt := Nat.lt_of_lt_of_le h.lt hb.size
  c0 := by rw [hb.cell (p := ⟨N, 0, none⟩) hN]; exact h.c0
  c1 := by rw [hb.cell (p := ⟨N, 1, none⟩) hN]; exact h.c1
  c2 := by rw [hb.cell (p := ⟨N, 2, none⟩) hN]; exact h.c2
  fr := fun k => by rw [hb.frozen (p := ⟨N, k, none⟩) hN]; exact h.fr k
/-- The argument's variable, the two answers'. -/
structure CC3 (w : World) (A : Na) (x : Ct) (u : World) : Prop where
  c : CCtx w A x u
  m : Box3 (w.heap.size + 2) (.int .i64 0) (.int .i64 0) (.string ⟨#[]⟩) u
  sz : w.heap.size + 3 ≤ u.heap.size
theorem CC3.keep {w : World} {A : Na} {x : Ct} {u u' : World} {B : Nat} (h : CC3 w A x u) (hb : Below B u u') (hB : w.heap.size + 3 ≤ B) : CC3 w A x u' := ⟨h.c.keep hb (by omega), h.m.below hb (by omega), Nat.le_trans h.sz hb.size⟩
theorem CC3.kp {w : World} {A : Na} {x : Ct} {u u' : World} (h : CC3 w A x u) (hb : Below u.heap.size u u') : CC3 w A x u' := h.keep hb h.sz
theorem cc3_new {w : World} {A : Na} {x : Ct} (hI : CIn w A x) : CC3 w A x (((w.alloc (.cells #[.int .i64 x.kd, .int .i64 x.nu, .string x.tx, .int .i64 x.ve, .bool x.cl, .slice A.a A.n A.c, .slice A.a' A.n' A.c'] 37)).alloc (.cells #[.int .i64 0, .int .i64 0, .string ⟨#[]⟩, .int .i64 0, .bool false, .slice none 0 0, .slice none 0 0] 37)).alloc (.cells #[.int .i64 0, .int .i64 0, .string ⟨#[]⟩] 25)) := by
  have hc := cctx_new hI
  have s1 : ((w.alloc (.cells #[.int .i64 x.kd, .int .i64 x.nu, .string x.tx, .int .i64 x.ve, .bool x.cl, .slice A.a A.n A.c, .slice A.a' A.n' A.c'] 37)).alloc (.cells #[.int .i64 0, .int .i64 0, .string ⟨#[]⟩, .int .i64 0, .bool false, .slice none 0 0, .slice none 0 0] 37)).heap.size = w.heap.size + 2 := by simp
  exact ⟨hc.kp (bl_alloc (Below.refl _ _) _), by rw [← s1]; exact Box3.new _ _ _ _ _, by simp⟩
theorem seen_fin {w : World} {A A' : Na} {x y : Ct} {u : World} (hC : CC3 w A x u) (hR : Rows2 (w.heap.size + 3) u A' y.ln y.gs) (ht : y.tx.size ≤ maxLen) (m0 m1 m2 : Value) :
    COwn w.heap.size ((((((((((u.setCell ⟨w.heap.size + 1, 0, none⟩ (.int .i64 y.kd)).setCell ⟨w.heap.size + 1, 1, none⟩ (.int .i64 y.nu)).setCell ⟨w.heap.size + 1, 2, none⟩ (.string y.tx)).setCell ⟨w.heap.size + 1, 3, none⟩ (.int .i64 y.ve)).setCell ⟨w.heap.size + 1, 4, none⟩ (.bool y.cl)).setCell ⟨w.heap.size + 1, 5, none⟩ (.slice A'.a A'.n A'.c)).setCell ⟨w.heap.size + 1, 6, none⟩ (.slice A'.a' A'.n' A'.c')).setCell ⟨w.heap.size + 2, 0, none⟩ m0).setCell ⟨w.heap.size + 2, 1, none⟩ m1).setCell ⟨w.heap.size + 2, 2, none⟩ m2) A' y ∧ A'.ok ∧ Below w.heap.size w ((((((((((u.setCell ⟨w.heap.size + 1, 0, none⟩ (.int .i64 y.kd)).setCell ⟨w.heap.size + 1, 1, none⟩ (.int .i64 y.nu)).setCell ⟨w.heap.size + 1, 2, none⟩ (.string y.tx)).setCell ⟨w.heap.size + 1, 3, none⟩ (.int .i64 y.ve)).setCell ⟨w.heap.size + 1, 4, none⟩ (.bool y.cl)).setCell ⟨w.heap.size + 1, 5, none⟩ (.slice A'.a A'.n A'.c)).setCell ⟨w.heap.size + 1, 6, none⟩ (.slice A'.a' A'.n' A'.c')).setCell ⟨w.heap.size + 2, 0, none⟩ m0).setCell ⟨w.heap.size + 2, 1, none⟩ m1).setCell ⟨w.heap.size + 2, 2, none⟩ m2) :=
  ⟨((((((hR.cown ht).farA (w.heap.size + 1) (by omega) _ _ _ _ _ _ _).far (w.heap.size + 2) 0 (by omega) m0).far (w.heap.size + 2) 1 (by omega) m1).far (w.heap.size + 2) 2 (by omega) m2).mono (by omega)), hR.ok, bl_set1 (bl_set1 (bl_set1 (bl_sC hC.c.below (w.heap.size + 1) (by omega) _ _ _ _ _ _ _) (w.heap.size + 2) 0 (by omega) m0) (w.heap.size + 2) 1 (by omega) m1) (w.heap.size + 2) 2 (by omega) m2⟩
def seenM (x : Ct) (who : Int) : Ct × Int × Int × ByteArray × Int × Int :=
  if okC x = false then (x, 0, 0, ⟨#[]⟩, 0, 1) else if hasL x.ln who = true then (x, 0, 0, ⟨#[]⟩, 0, 4) else if hasL x.gs who = true then ({ x with gs := lessL x.gs who }, x.kd, x.nu, x.tx, x.ve, lookC x) else (x, 0, 0, ⟨#[]⟩, 0, 3)
theorem seen_len (x : Ct) (y : Int) : (seenM x y).1.ln.length ≤ x.ln.length + x.gs.length + 1 ∧ (seenM x y).1.gs.length ≤ x.ln.length + x.gs.length + 1 := by
  have h1 : (lessL x.gs y).length ≤ x.gs.length := by unfold lessL; exact List.length_erase_le
  unfold seenM
  repeat' split
  all_goals (constructor <;> dsimp only <;> omega)
end Go.Proofs.Ytllpcbdecibloaa
namespace Go.Proofs.Ytllpcbdecibloaa
open Go.RowKit Pl

def ltB (k n : Int) (s : ByteArray) (k' n' : Int) (s' : ByteArray) : Bool :=
  if okB k n s = true ∧ okB k' n' s' = true then (if k = k' then (if k = 1 then decide (n < n') else Op.bytesLess s.toList s'.toList) else decide (k < k')) else false

theorem as_nn (a : Int) (w : World) : (Instr.typeAssert (.iface 153 (.int .i64 a)) 89 153 true).run Try.prog w = .ok (.tuple #[.int .i64 a, .bool true]) w := by kernel_rfl
theorem as_nt (s : ByteArray) (w : World) : (Instr.typeAssert (.iface 154 (.string s)) 89 153 true).run Try.prog w = .ok (.tuple #[.int .i64 0, .bool false]) w := by kernel_rfl
theorem as_tn (a : Int) (w : World) : (Instr.typeAssert (.iface 153 (.int .i64 a)) 89 154 true).run Try.prog w = .ok (.tuple #[.string ⟨#[]⟩, .bool false]) w := by kernel_rfl
theorem as_tt (s : ByteArray) (w : World) : (Instr.typeAssert (.iface 154 (.string s)) 89 154 true).run Try.prog w = .ok (.tuple #[.string s, .bool true]) w := by kernel_rfl

theorem less_nn (a b : Int) (w : World) :
    Calls Try.prog 141 #[.iface 153 (.int .i64 a), .iface 153 (.int .i64 b)] w fun e w' => e = .returned (.bool (decide (a < b))) ∧ w' = w := by
  have m1 := as_nn
  go_enter Try.func141, Try.ntmps141
  go_wp2
  go_ret
  exact ⟨rfl, rfl⟩
theorem less_nt (a : Int) (s : ByteArray) (w : World) :
    Calls Try.prog 141 #[.iface 153 (.int .i64 a), .iface 154 (.string s)] w fun e w' => e = .returned (.bool true) ∧ w' = w := by
  have m1 := as_nn
  have m2 := as_nt
  go_enter Try.func141, Try.ntmps141
  go_wp2
  go_ret
  exact ⟨rfl, rfl⟩
theorem less_tn (a : Int) (s : ByteArray) (w : World) :
    Calls Try.prog 141 #[.iface 154 (.string s), .iface 153 (.int .i64 a)] w fun e w' => e = .returned (.bool false) ∧ w' = w := by
  have m1 := as_nt
  have m2 := as_tt
  have m3 := as_tn
  go_enter Try.func141, Try.ntmps141
  go_wp2
  go_ret
  exact ⟨rfl, rfl⟩
theorem less_tt (s t : ByteArray) (w : World) :
    Calls Try.prog 141 #[.iface 154 (.string s), .iface 154 (.string t)] w fun e w' => e = .returned (.bool (Op.bytesLess s.toList t.toList)) ∧ w' = w := by
  have m1 := as_nt
  have m2 := as_tt
  go_enter Try.func141, Try.ntmps141
  go_wp2
  go_ret
  exact ⟨rfl, rfl⟩

theorem ok_kind {k n : Int} {s : ByteArray} (h : okB k n s = true) : k = 1 ∨ k = 2 := by
  unfold okB at h
  by_cases h1 : k = 1
  · exact .inl h1
  · by_cases h2 : k = 2
    · exact .inr h2
    · simp [h1, h2] at h

/-- Two bodies, whichever they are: which is ahead. -/
theorem less_any (k n : Int) (s : ByteArray) (k' n' : Int) (s' : ByteArray) (w : World) (h : okB k n s = true) (h' : okB k' n' s' = true) :
    Calls Try.prog 141 #[.iface (tyOf k) (valOf k n s), .iface (tyOf k') (valOf k' n' s')] w fun e w' => e = .returned (.bool (ltB k n s k' n' s')) ∧ w' = w := by
  rcases ok_kind h with rfl | rfl <;> rcases ok_kind h' with rfl | rfl
  · refine (less_nn n n' w).mono fun e w' ⟨he, hw⟩ => ⟨?_, hw⟩
    rw [he]; simp [ltB, h, h']
  · refine (less_nt n s' w).mono fun e w' ⟨he, hw⟩ => ⟨?_, hw⟩
    rw [he]; simp [ltB, h, h']
  · refine (less_tn n' s w).mono fun e w' ⟨he, hw⟩ => ⟨?_, hw⟩
    rw [he]; simp [ltB, h, h']
  · refine (less_tt s s' w).mono fun e w' ⟨he, hw⟩ => ⟨?_, hw⟩
    rw [he]; simp [ltB, h, h']

theorem lt_no1 {k n : Int} {s : ByteArray} {k' n' : Int} {s' : ByteArray} (h : okB k n s = false) : ltB k n s k' n' s' = false := by simp [ltB, h]
theorem lt_no2 {k n : Int} {s : ByteArray} {k' n' : Int} {s' : ByteArray} (h : okB k' n' s' = false) : ltB k n s k' n' s' = false := by simp [ltB, h]

end Go.Proofs.Ytllpcbdecibloaa
namespace Go.Proofs.Ytllpcbdecibloaa
open Go.RowKit Pl Il

/-- What comes of it, whether it is right or not. -/
def chRaw (k n : Int) (s : ByteArray) (kind k' n' : Int) (s' : ByteArray) : Option (Int × Int × ByteArray) :=
  if kind = 1 then some (k', n', s')
  else if kind = 2 then (if k = 1 ∧ k' = 1 then some (k', n + n', s') else none)
  else if kind = 3 then (if k = 2 ∧ k' = 2 then some (k', n', s ++ s') else none)
  else if kind = 4 then (if ltB k' n' s' k n s = true then some (k, n, s) else some (k', n', s'))
  else none
def noCh : Int × Int × ByteArray × Bool := (0, 0, ⟨#[]⟩, false)
def changedM (k n : Int) (s : ByteArray) (kind k' n' : Int) (s' : ByteArray) : Int × Int × ByteArray × Bool :=
  if okB k n s = false then noCh else if okB k' n' s' = false then noCh else
  match chRaw k n s kind k' n' s' with
  | none => noCh
  | some (a, b, c) => if okB a b c = true then (a, b, c, true) else noCh
/-- The answer. -/
def ChP (r : Int × Int × ByteArray × Bool) (e : Ending) : Prop := e = .returned (.tuple #[.agg #[.int .i64 r.1, .int .i64 r.2.1, .string r.2.2.1], .bool r.2.2.2])
theorem ch_no1 {k n : Int} {s : ByteArray} {kind k' n' : Int} {s' : ByteArray} (h : okB k n s = false) : changedM k n s kind k' n' s' = noCh := by unfold changedM; rw [if_pos h]
theorem ch_no2 {k n : Int} {s : ByteArray} {kind k' n' : Int} {s' : ByteArray} (h0 : okB k n s = true) (h : okB k' n' s' = false) : changedM k n s kind k' n' s' = noCh := by unfold changedM; rw [if_neg (by rw [h0]; simp), if_pos h]
theorem ch_none {k n : Int} {s : ByteArray} {kind k' n' : Int} {s' : ByteArray} (h0 : okB k n s = true) (h1 : okB k' n' s' = true) (h : chRaw k n s kind k' n' s' = none) : changedM k n s kind k' n' s' = noCh := by unfold changedM; rw [if_neg (by rw [h0]; simp), if_neg (by rw [h1]; simp), h]
theorem ch_some {k n : Int} {s : ByteArray} {kind k' n' : Int} {s' : ByteArray} {a b : Int} {c : ByteArray} (h0 : okB k n s = true) (h1 : okB k' n' s' = true) (h : chRaw k n s kind k' n' s' = some (a, b, c)) : changedM k n s kind k' n' s' = if okB a b c = true then (a, b, c, true) else noCh := by unfold changedM; rw [if_neg (by rw [h0]; simp), if_neg (by rw [h1]; simp), h]
theorem raw1 (k n : Int) (s : ByteArray) (k' n' : Int) (s' : ByteArray) : chRaw k n s 1 k' n' s' = some (k', n', s') := rfl
theorem raw2 {k n : Int} {s : ByteArray} {k' n' : Int} {s' : ByteArray} (h : k = 1 ∧ k' = 1) : chRaw k n s 2 k' n' s' = some (k', n + n', s') := by unfold chRaw; rw [if_neg (by omega), if_pos rfl, if_pos h]
theorem raw2n {k n : Int} {s : ByteArray} {k' n' : Int} {s' : ByteArray} (h : ¬ (k = 1 ∧ k' = 1)) : chRaw k n s 2 k' n' s' = none := by unfold chRaw; rw [if_neg (by omega), if_pos rfl, if_neg h]
theorem raw3 {k n : Int} {s : ByteArray} {k' n' : Int} {s' : ByteArray} (h : k = 2 ∧ k' = 2) : chRaw k n s 3 k' n' s' = some (k', n', s ++ s') := by unfold chRaw; rw [if_neg (by omega), if_neg (by omega), if_pos rfl, if_pos h]
theorem raw3n {k n : Int} {s : ByteArray} {k' n' : Int} {s' : ByteArray} (h : ¬ (k = 2 ∧ k' = 2)) : chRaw k n s 3 k' n' s' = none := by unfold chRaw; rw [if_neg (by omega), if_neg (by omega), if_pos rfl, if_neg h]
theorem raw4y {k n : Int} {s : ByteArray} {k' n' : Int} {s' : ByteArray} (h : ltB k' n' s' k n s = true) : chRaw k n s 4 k' n' s' = some (k, n, s) := by unfold chRaw; rw [if_neg (by omega), if_neg (by omega), if_neg (by omega), if_pos rfl, if_pos h]
theorem raw4n {k n : Int} {s : ByteArray} {k' n' : Int} {s' : ByteArray} (h : ltB k' n' s' k n s = false) : chRaw k n s 4 k' n' s' = some (k', n', s') := by unfold chRaw; rw [if_neg (by omega), if_neg (by omega), if_neg (by omega), if_pos rfl, if_neg (by rw [h]; simp)]
theorem raw0 {k n : Int} {s : ByteArray} {kind k' n' : Int} {s' : ByteArray} (h1 : ¬ kind = 1) (h2 : ¬ kind = 2) (h3 : ¬ kind = 3) (h4 : ¬ kind = 4) : chRaw k n s kind k' n' s' = none := by unfold chRaw; rw [if_neg h1, if_neg h2, if_neg h3, if_neg h4]
end Go.Proofs.Ytllpcbdecibloaa
namespace Go.Proofs.Ytllpcbdecibloaa
open Go.RowKit Pl

theorem lt_kinds {k n : Int} {s : ByteArray} {k' n' : Int} {s' : ByteArray} (h : okB k n s = true) (h' : okB k' n' s' = true) (hk : ¬ k = k') : ltB k n s k' n' s' = decide (k < k') := by simp [ltB, h, h', hk]
theorem lt_nums {n : Int} {s : ByteArray} {n' : Int} {s' : ByteArray} (h : okB 1 n s = true) (h' : okB 1 n' s' = true) : ltB 1 n s 1 n' s' = decide (n < n') := by simp [ltB, h, h']
theorem lt_texts {k n : Int} {s : ByteArray} {n' : Int} {s' : ByteArray} (h : okB k n s = true) (h' : okB k n' s' = true) (hk : ¬ k = 1) : ltB k n s k n' s' = Op.bytesLess s.toList s'.toList := by simp [ltB, h, h', hk]

theorem specLess_any (k n : Int) (s : ByteArray) (k' n' : Int) (s' : ByteArray) (w : World) (hm : s.size ≤ maxLen) (hm' : s'.size ≤ maxLen) :
    Calls Try.prog 16 #[.agg #[.int .i64 k, .int .i64 n, .string s], .agg #[.int .i64 k', .int .i64 n', .string s']] w fun e w' =>
      e = .returned (.bool (ltB k n s k' n' s')) ∧ Below w.heap.size w w' := by
  go_enter Try.func16, Try.ntmps16
  go_wp2_with fail
  refine (specMsgOk_any k n s _ hm).mono ?_
  rintro e w1 ⟨rfl, hb1⟩
  obtain ⟨hc1, hf1⟩ := bcell hb1
  have hb := bl_trans (bl_alloc (bl_alloc (Below.refl _ _) _) _) hb1
  cases ho : okB k n s
  · clear hb1
    go_wp2
    go_ret
    exact ⟨ret_bool (lt_no1 ho).symm, hb⟩
  · go_wp2_with fail
    refine (specMsgOk_any k' n' s' _ hm').mono ?_
    rintro e w2 ⟨rfl, hb2⟩
    have hb' := bl_trans hb hb2
    have hb12 := bl_trans hb1 hb2
    clear hb1 hb2 hc1 hf1 hb
    obtain ⟨hc1, hf1⟩ := bcell hb12
    clear hb12
    cases ho' : okB k' n' s'
    · go_wp2
      go_ret
      exact ⟨ret_bool (lt_no2 ho').symm, hb'⟩
    · by_cases hk : k = k'
      · subst hk
        by_cases h1 : k = 1
        · subst h1
          go_wp2
          go_ret
          exact ⟨ret_bool (lt_nums ho ho').symm, hb'⟩
        · have h1' : (k == 1) = false := by simp [h1]
          go_wp2
          go_ret
          exact ⟨ret_bool (lt_texts ho ho' h1).symm, hb'⟩
      · have hk' : (k != k') = true := by simp [hk]
        go_wp2
        go_ret
        exact ⟨ret_bool (lt_kinds ho ho' hk).symm, hb'⟩
end Go.Proofs.Ytllpcbdecibloaa
namespace Go.Proofs.Ytllpcbdecibloaa
open Go.RowKit Pl Il

theorem l6Waits_any (a : Option Addr) (n cap : Nat) (ls : List Int) (a' : Option Addr) (n' cap' : Nat) (ts : List Int) (w : World) (hI : IntsAt w a n ls) (hJ : IntsAt w a' n' ts) (hn : n ≤ 2097152) (hn' : n' ≤ 2097152) (hcap : n ≤ cap) (hcap' : n' ≤ cap') :
    Calls Try.prog 62 #[.slice a n cap, .slice a' n' cap'] w fun e w' => e = .returned (.bool (waitL ls ts)) ∧ Below w.heap.size w w' := by
  go_enter Try.func62, Try.ntmps62
  go_wp2_with fail
  refine (specLineOk_any a n cap ls _ hI hn hcap).mono ?_
  rintro e w1 ⟨rfl, hb1⟩
  cases h1 : lineL ls
  · go_wp2
    go_ret
    exact ⟨rbool (by simp [waitL, h1]), hb1⟩
  · go_wp2_with fail
    refine (specLineOk_any a' n' cap' ts _ (hJ.keep hb1) hn' hcap').mono ?_
    rintro e w2 ⟨rfl, hb2⟩
    have hB2 := bl_trans hb1 hb2
    cases h2 : lineL ts
    · go_wp2
      go_ret
      exact ⟨rbool (by simp [waitL, h2]), hB2⟩
    · have H1 := hidOf h1
      have H2 := hidOf h2
      have HI2 := hidOf (hI.keep hB2)
      have hJ2 := hJ.keep hB2
      have HB2 := hidOf hB2
      clear hI hJ h1 h2 hB2 hb1 hb2
      obtain ⟨hlen, h0 | ⟨b, off, rfl, hb, hcell⟩⟩ := hJ2
      · subst h0
        have : ts = [] := List.length_eq_zero_iff.1 hlen
        subst this
        go_wp2_with fail
        go_loop [5] (fun i => i = .int .i64 0) (fun _ => 0)
        case atStart => rfl
        case round =>
          subst hrel
          go_wp2
          go_ret
          exact ⟨rbool (by simp [waitL, H1.out, H2.out, apartL]), HB2.out⟩
      · have HL := hidOf hlen
        clear hlen
        go_wp2_with fail
        go_loop [5] (fun i => ∃ k : Nat, k ≤ n' ∧ i = .int .i64 k ∧ apartL ls (ts.take k) = true) (fun i => n' - (intOf i).toNat)
        case atStart => exact ⟨0, Nat.zero_le _, rfl, rfl⟩
        case round =>
          obtain ⟨k, hk, rfl, hap⟩ := hrel
          have HAp := hidOf hap
          clear hap
          by_cases hlt : k < n'
          · have hc := hcell k hlt
            have hkl : k < ts.length := by rw [HL.out]; exact hlt
            generalize hy : ts.getD k 0 = y at hc
            have HY := hidOf hy
            have hki : (0 : Int) ≤ (k : Int) ∧ (k : Int) < (n' : Int) := by omega
            clear hy hcell
            cases hh : hasL ls y
            · go_wp2_with (go_at_call 70; refine (l2Has_any a n cap ls y _ HI2.out hn).mono ?_; rintro e w3 ⟨rfl, rfl⟩; rw [hh])
              go_round
              case rel => exact ⟨k + 1, by omega, by go_num, apart_step hkl HY.out HAp.out hh⟩
              case measure => simp [intOf]; omega
            · go_wp2_with (go_at_call 70; refine (l2Has_any a n cap ls y _ HI2.out hn).mono ?_; rintro e w3 ⟨rfl, rfl⟩; rw [hh])
              go_ret
              exact ⟨rbool (by rw [waitL, apart_bad hkl HY.out hh]; simp), HB2.out⟩
          · obtain rfl : k = n' := by omega
            clear hcell
            go_wp2
            go_ret
            exact ⟨rbool (by rw [waitL, H1.out, H2.out, apart_end (by rw [HL.out]; exact Nat.le_refl _) HAp.out]; rfl), HB2.out⟩
theorem inCnt_any (x : Int) (w : World) :
    Calls Try.prog 51 #[.int .i64 x, .int .i64 0, .int .i64 1000000000] w fun e w' => e = .returned (.bool (cnt x)) ∧ w' = w := in_any x 0 1000000000 w
end Go.Proofs.Ytllpcbdecibloaa
namespace Go.Proofs.Ytllpcbdecibloaa
open Go.RowKit Pl Il

theorem specCellOk_any (A : Na) (x : Ct) (w : World) (hI : CIn w A x) (hn : A.n ≤ 2097152) (hn' : A.n' ≤ 2097152) (hok : A.ok) :
    Calls Try.prog 23 #[.agg #[.int .i64 x.kd, .int .i64 x.nu, .string x.tx, .int .i64 x.ve, .bool x.cl, .slice A.a A.n A.c, .slice A.a' A.n' A.c']] w fun e w' => e = .returned (.bool (okC x)) ∧ Below w.heap.size w w' := by
  generalize hW0 : w.alloc (.cells #[.int .i64 x.kd, .int .i64 x.nu, .string x.tx, .int .i64 x.ve, .bool x.cl, .slice A.a A.n A.c, .slice A.a' A.n' A.c'] 37) = W0
  have B0 : Below w.heap.size w W0 := by subst hW0; exact bl_alloc (Below.refl _ _) _
  have x0 : CBox w.heap.size A x W0 := by subst hW0; exact CBox.new w A x _
  have HI0 := hidOf (hI.keep B0)
  have HL := hidOf hI.ints.len
  have htx := hI.tx
  obtain ⟨_, p0, p1, p2, p3, p4, p5, p6, _⟩ := id x0
  have X0 := hidOf x0
  clear hI x0
  have hun : (undef : Value) = .tuple #[] := rfl
  go_enter Try.func23, Try.ntmps23
  go_wp2_with fail
  refine (specMsgOk_any x.kd x.nu x.tx _ htx).mono ?_
  rintro e w1 ⟨rfl, hb1⟩
  have X0 := hidOf (X0.out.keep hb1)
  have HI0 := hidOf (HI0.out.keep hb1)
  have B1 := bl_trans B0 hb1
  clear B0 hb1 hW0 p0 p1 p2 p3 p4 p5 p6
  obtain ⟨_, p0, p1, p2, p3, p4, p5, p6, _⟩ := X0.out
  cases h0 : okB x.kd x.nu x.tx
  · go_wp2
    go_ret
    exact ⟨rbool (by simp [okC, h0]), B1⟩
  · go_wp2_with fail
    refine (inCnt_any x.ve _).mono ?_
    rintro e w2 ⟨rfl, rfl⟩
    cases h1 : cnt x.ve
    · go_wp2
      go_ret
      exact ⟨rbool (by simp [okC, h1]), B1⟩
    · go_wp2_with fail
      refine (l6Waits_any A.a A.n A.c x.ln A.a' A.n' A.c' x.gs _ HI0.out.ints HI0.out.grs hn hn' hok.1 hok.2).mono ?_
      rintro e w3 ⟨rfl, hb3⟩
      have B3 := bl_trans B1 hb3
      clear p0 p1 p2 p3 p4 p5 p6 B1
      obtain ⟨_, p0, p1, p2, p3, p4, p5, p6, _⟩ := X0.out.keep hb3
      clear X0 HI0 hb3
      cases h2 : waitL x.ln x.gs
      · go_wp2
        go_ret
        exact ⟨rbool (by simp [okC, h2]), B3⟩
      · obtain ⟨b, hb⟩ : ∃ b, b = x.cl := ⟨_, rfl⟩
        rw [← hb] at p4
        have HCl := hidOf hb
        clear hb
        cases b
        · go_wp2
          go_ret
          exact ⟨rbool (by simp [okC, h0, h1, h2, ← HCl.out]), B3⟩
        · by_cases h4 : (0 : Int) < (A.n : Int)
          · go_wp2
            go_ret
            exact ⟨rbool (by have := HL.out; first | (simp [okC, ← HCl.out, HL.out]; done) | (simp [okC, ← HCl.out, HL.out]; omega)), B3⟩
          · go_wp2
            go_ret
            exact ⟨rbool (by have := HL.out; first | (simp [okC, h0, h1, h2, ← HCl.out, HL.out]; done) | (simp [okC, h0, h1, h2, ← HCl.out, HL.out]; omega)), B3⟩
end Go.Proofs.Ytllpcbdecibloaa
