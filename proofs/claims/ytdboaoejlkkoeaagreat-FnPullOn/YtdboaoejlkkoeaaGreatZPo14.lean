/-
  The specification's RingOk, as the laws ask for it
  What a filter lets pass: plain mathematics
  Walks of the program's terms: which are right, how many an Op takes
  The walk of the function that makes a message's body
-/
import Derived.Test.YtdboaoejlkkoeaaGreatZPo13
import Derived.Laws.Bits64
import Derived.Laws.BitsLemmas
import Derived.LoopIn
import Derived.LoopNIn
import Derived.OwnWalkIn
import Derived.RangeFuncBound
import Derived.RangeFuncCalls
import Derived.RangeFuncLeaves
import Derived.RangeFuncNested
import Derived.Shelf.Strings.Search3
import Derived.TacticsInMore
import Derived.Test.YtdboaoejlkkoeaaGreatProg
namespace Go.Proofs.YtdboaoejlkkoeaaGreat
open Go.RowKit Pl Il
theorem specRingOk_any : SpecRingOk (okR restR) := fun M v w hI hm _ _ => specRingOk_one M v w hI (hm.mono (by omega))
open Go.RowKit Pl Il
abbrev Bd : Type := Sum Int ByteArray
def begB (s t : ByteArray) : Bool := t.toList.isPrefixOf s.toList
def inL : List UInt8 → List UInt8 → Bool
  | l, [] => l.isEmpty
  | l, x :: xs => l.isPrefixOf (x :: xs) || inL l xs
def leafP (t : Tm) : Bd → Bool
  | .inl n => if t.1 = 1 then true else if t.1 = 2 then true else if t.1 = 3 then false else if t.1 = 4 then decide (n < t.2.1) else if t.1 = 5 then decide (n.tmod t.2.1 = 0) else false
  | .inr s => if t.1 = 1 then true else if t.1 = 2 then false else if t.1 = 3 then true else if t.1 = 4 then false else if t.1 = 5 then false else if t.1 = 6 then begB s t.2.2 else inL t.2.2.toList s.toList
abbrev Pd : Type := Bd → Bool
def pg (ps : List Pd) (i : Nat) : Pd := ps.getD i (fun _ => false)
def stepP (t : Tm) (ps : List Pd) : List Pd :=
  if t.1 = 8 then ps.take (ps.length - 1) ++ [fun b => !(pg ps (ps.length - 1) b)]
  else if t.1 = 9 then ps.take (ps.length - 2) ++ [fun b => pg ps (ps.length - 1) b && pg ps (ps.length - 2) b]
  else if t.1 = 10 then ps.take (ps.length - 2) ++ [fun b => pg ps (ps.length - 1) b || pg ps (ps.length - 2) b]
  else ps ++ [leafP t]
theorem stepP_len (t : Tm) (ps : List Pd) (_h : ¬ ps.length < cntM t.1) : (stepP t ps).length = ps.length - cntM t.1 + 1 := by
  unfold stepP
  unfold cntM
  by_cases h1 : t.1 = 8
  · simp [h1]
  · by_cases h2 : t.1 = 9
    · simp [h2]
    · by_cases h3 : t.1 = 10
      · simp [h3]
      · simp [h1, h2, h3]
def runP (f : List Tm) : List Pd := f.foldl (fun ps t => stepP t ps) []
theorem runP_snoc (l : List Tm) (t : Tm) : runP (l ++ [t]) = stepP t (runP l) := by simp [runP]
theorem runP_step {f : List Tm} {k : Nat} (hk : k < f.length) : runP (f.take (k + 1)) = stepP (qg f k) (runP (f.take k)) := by rw [take_qg hk, runP_snoc]
def passP (f : List Tm) : Pd := if f = [] then fun _ => true else pg (runP f) 0
theorem runP_len : ∀ {f : List Tm} {k m : Nat}, k ≤ f.length → goN (f.take k) 0 = some m → (runP (f.take k)).length = m := by
  intro f k
  induction k with
  | zero => intro m _ h; simp [goN] at h; subst h; simp [runP]
  | succ k ih =>
    intro m hk h
    have hk' : k < f.length := by omega
    rw [take_qg hk', goN_snoc] at h
    cases e : goN (f.take k) 0 with
    | none => rw [e] at h; cases h
    | some q =>
      rw [e] at h
      simp only [Option.bind_some] at h
      have hl := ih (by omega) e
      split at h
      · cases h
      · split at h
        · cases h
        · rename_i h2
          rw [runP_step hk', stepP_len _ _ (by rw [hl]; exact h2), hl]
          simpa using h
open Go.RowKit Pl Il
theorem isPart_any (s : ByteArray) (w : World) (hs : s.size ≤ maxLen) :
    Calls Tryz.prog 190 #[.string s] w fun e w' => e = .returned (.bool (partB s)) ∧ w' = w := by
  unfold maxLen at hs
  by_cases h1 : (s.size : Int) < 1
  · have hq := part_size s (by omega)
    go_enter Tryz.func190, Tryz.ntmps190
    go_wp2
    go_ret
    first | exact ⟨rbool hq.symm, rfl⟩ | exact ⟨rfl, rfl⟩
  by_cases h2 : 10 < (s.size : Int)
  · have hq := part_size s (by omega)
    go_enter Tryz.func190, Tryz.ntmps190
    go_wp2
    go_ret
    first | exact ⟨rbool hq.symm, rfl⟩ | exact ⟨rfl, rfl⟩
  go_enter Tryz.func190, Tryz.ntmps190
  go_wp2
  go_loop [3] (fun i => ∃ k : Nat, k ≤ s.size ∧ i = .int .i64 k ∧ letL (s.data.toList.take k) = true) (fun i => s.size - (intOf i).toNat)
  case atStart => exact ⟨0, Nat.zero_le _, rfl, rfl⟩
  case round =>
    obtain ⟨k, hk, rfl, hp⟩ := hrel
    by_cases hlt : k < s.size
    · go_wp2
      all_goals first
        | (go_ret; exact ⟨rbool (part_bad s k hlt (let_no _ (by omega))).symm, rfl⟩)
        | (go_round
           case rel => exact ⟨k + 1, by omega, by go_num, let_step s k hlt hp (let_yes _ (by omega) (by omega))⟩
           case measure => simp [intOf]; omega)
    · go_wp2
      go_ret
      exact ⟨rbool (part_all s k (by omega) (by omega) (by omega) hp).symm, rfl⟩
theorem countTaken_any (op : Int) (w : World) : Calls Tryz.prog 185 #[.int .i64 op] w fun e w' => e = .returned (.int .i64 (cntM op : Int)) ∧ w' = w := by
  by_cases h1 : op = 8
  · subst h1
    go_enter Tryz.func185, Tryz.ntmps185
    go_wp2
    go_ret
    exact ⟨rfl, rfl⟩
  by_cases h2 : op = 9
  · subst h2
    go_enter Tryz.func185, Tryz.ntmps185
    go_wp2
    go_ret
    exact ⟨rfl, rfl⟩
  by_cases h3 : op = 10
  · subst h3
    go_enter Tryz.func185, Tryz.ntmps185
    go_wp2
    go_ret
    exact ⟨rfl, rfl⟩
  have e1 : (op == 8) = false := by simp [h1]
  have e2 : (op == 9) = false := by simp [h2]
  have e3 : (op == 10) = false := by simp [h3]
  have hc : cntM op = 0 := by simp [cntM, h1, h2, h3]
  rw [hc]
  go_enter Tryz.func185, Tryz.ntmps185
  go_wp2
  go_ret
  exact ⟨rfl, rfl⟩
set_option maxHeartbeats 1000000 in
theorem termOk_any (t : Tm) (w : World) (hs : t.2.2.size ≤ maxLen) :
    Calls Tryz.prog 184 #[.agg #[.int .i64 t.1, .int .i64 t.2.1, .string t.2.2]] w fun e w' => e = .returned (.bool (okTm t)) ∧ Below w.heap.size w w' := by
  obtain ⟨op, n, s⟩ := t
  simp only at hs ⊢
  go_enter Tryz.func184, Tryz.ntmps184
  go_wp2_with (go_at_call 190; refine (isPart_any s _ hs).mono ?_; rintro e w1 ⟨rfl, rfl⟩)
  all_goals go_ret
  all_goals refine ⟨rbool ?_, bl_alloc (Below.refl _ _) _⟩
  all_goals first | (simp_all [okTm]; done) | (simp_all [okTm]; omega)
end Go.Proofs.YtdboaoejlkkoeaaGreat
namespace Go.Proofs.YtdboaoejlkkoeaaGreat
open Go.RowKit Pl
theorem meth_msg_num (n : Int) (w : World) : (method 341 193 (.int .i64 n) "loop.example/g00098/impl.msg").run Tryz.prog w = .ok (234, .int .i64 n) w := by kernel_rfl
theorem meth_right_num (n : Int) (w : World) : (method 341 193 (.int .i64 n) "loop.example/g00098/impl.right").run Tryz.prog w = .ok (235, .int .i64 n) w := by kernel_rfl
theorem meth_msg_text (s : ByteArray) (w : World) : (method 341 194 (.string s) "loop.example/g00098/impl.msg").run Tryz.prog w = .ok (237, .string s) w := by kernel_rfl
theorem meth_right_text (s : ByteArray) (w : World) : (method 341 194 (.string s) "loop.example/g00098/impl.right").run Tryz.prog w = .ok (238, .string s) w := by kernel_rfl
def yes (t : TypeId) (v : Value) : Ending := .returned (.tuple #[.iface t v, .bool true])
def no : Ending := .returned (.tuple #[.nilIface, .bool false])
theorem body_num_yes (n : Int) (s : ByteArray) (w : World) (hs : s.toList = []) (hn : okNum n = true) :
    Calls Tryz.prog 141 #[.agg #[.int .i64 1, .int .i64 n, .string s]] w fun e w' => e = yes 193 (.int .i64 n) ∧ Below w.heap.size w w' := by
  have m1 := meth_msg_num n
  have m2 := meth_right_num n
  go_enter Tryz.func141, Tryz.ntmps141
  go_wp2_with fail
  first | (go_region_with (first | (go_at_call 234; refine (msg_num _ _).mono ?_; rintro e w' ⟨rfl, rfl⟩) | (go_at_call 235; refine (right_num _ _).mono ?_; rintro e w' ⟨rfl, rfl⟩))) | fail
  all_goals
    go_wp2
    go_ret2
    exact ⟨rfl, by repeat (first | exact Below.refl _ _ | apply Below.drew | apply bl_alloc)⟩
theorem body_num_no (n : Int) (s : ByteArray) (w : World) (hs : s.toList = []) (hn : okNum n = false) :
    Calls Tryz.prog 141 #[.agg #[.int .i64 1, .int .i64 n, .string s]] w fun e w' => e = no ∧ Below w.heap.size w w' := by
  have m1 := meth_msg_num n
  have m2 := meth_right_num n
  go_enter Tryz.func141, Tryz.ntmps141
  go_wp2_with fail
  first | (go_region_with (first | (go_at_call 234; refine (msg_num _ _).mono ?_; rintro e w' ⟨rfl, rfl⟩) | (go_at_call 235; refine (right_num _ _).mono ?_; rintro e w' ⟨rfl, rfl⟩))) | fail
  all_goals
    go_wp2
    go_ret2
    exact ⟨rfl, by repeat (first | exact Below.refl _ _ | apply Below.drew | apply bl_alloc)⟩
theorem body_num_not (n : Int) (s : ByteArray) (w : World) (hs : ¬ s.toList = []) :
    Calls Tryz.prog 141 #[.agg #[.int .i64 1, .int .i64 n, .string s]] w fun e w' => e = no ∧ Below w.heap.size w w' := by
  have m1 := meth_msg_num n
  have m2 := meth_right_num n
  go_enter Tryz.func141, Tryz.ntmps141
  go_wp2_with fail
  first | (go_region_with (first | (go_at_call 234; refine (msg_num _ _).mono ?_; rintro e w' ⟨rfl, rfl⟩) | (go_at_call 235; refine (right_num _ _).mono ?_; rintro e w' ⟨rfl, rfl⟩))) | fail
  all_goals
    go_wp2
    go_ret2
    exact ⟨rfl, by repeat (first | exact Below.refl _ _ | apply Below.drew | apply bl_alloc)⟩
open Go.RowKit Pl
theorem body_text_yes (s : ByteArray) (w : World) (hm : s.size ≤ maxLen) (hn : plainB s = true) :
    Calls Tryz.prog 141 #[.agg #[.int .i64 2, .int .i64 0, .string s]] w fun e w' => e = yes 194 (.string s) ∧ Below w.heap.size w w' := by
  have m1 := meth_msg_text s
  have m2 := meth_right_text s
  go_enter Tryz.func141, Tryz.ntmps141
  go_wp2_with fail
  first | (go_region_with (first | (go_at_call 237; refine (msg_text _ _).mono ?_; rintro e w' ⟨rfl, rfl⟩) | (go_at_call 238; refine (right_text _ _ hm).mono ?_; rintro e w' ⟨rfl, rfl⟩))) | fail
  all_goals
    go_wp2
    go_ret2
    exact ⟨rfl, by repeat (first | exact Below.refl _ _ | apply Below.drew | apply bl_alloc)⟩
theorem body_text_no (s : ByteArray) (w : World) (hm : s.size ≤ maxLen) (hn : plainB s = false) :
    Calls Tryz.prog 141 #[.agg #[.int .i64 2, .int .i64 0, .string s]] w fun e w' => e = no ∧ Below w.heap.size w w' := by
  have m1 := meth_msg_text s
  have m2 := meth_right_text s
  go_enter Tryz.func141, Tryz.ntmps141
  go_wp2_with fail
  first | (go_region_with (first | (go_at_call 237; refine (msg_text _ _).mono ?_; rintro e w' ⟨rfl, rfl⟩) | (go_at_call 238; refine (right_text _ _ hm).mono ?_; rintro e w' ⟨rfl, rfl⟩))) | fail
  all_goals
    go_wp2
    go_ret2
    exact ⟨rfl, by repeat (first | exact Below.refl _ _ | apply Below.drew | apply bl_alloc)⟩
theorem body_text_not (n : Int) (s : ByteArray) (w : World) (hn : ¬ n = 0) :
    Calls Tryz.prog 141 #[.agg #[.int .i64 2, .int .i64 n, .string s]] w fun e w' => e = no ∧ Below w.heap.size w w' := by
  have m1 := meth_msg_text s
  have m2 := meth_right_text s
  have hb : ((0 : Int) == n) = false := by simp; omega
  go_enter Tryz.func141, Tryz.ntmps141
  go_wp2_with fail
  first | (go_region_with (first | (go_at_call 237; refine (msg_text _ _).mono ?_; rintro e w' ⟨rfl, rfl⟩))) | fail
  all_goals
    go_wp2
    go_ret2
    exact ⟨rfl, by repeat (first | exact Below.refl _ _ | apply Below.drew | apply bl_alloc)⟩
theorem body_none (k n : Int) (s : ByteArray) (w : World) (h1 : (k == 1) = false) (h2 : (k == 2) = false) :
    Calls Tryz.prog 141 #[.agg #[.int .i64 k, .int .i64 n, .string s]] w fun e w' => e = no ∧ Below w.heap.size w w' := by
  go_enter Tryz.func141, Tryz.ntmps141
  go_wp2
  go_ret2
  exact ⟨rfl, bl_alloc (Below.refl _ _) _⟩
open Go.RowKit Pl
def tyOf (k : Int) : TypeId := if k = 1 then 193 else 194
def valOf (k n : Int) (s : ByteArray) : Value := if k = 1 then .int .i64 n else .string s
theorem body_any (k n : Int) (s : ByteArray) (w : World) (hm : s.size ≤ maxLen) :
    Calls Tryz.prog 141 #[.agg #[.int .i64 k, .int .i64 n, .string s]] w fun e w' =>
      (okB k n s = true ∧ e = yes (tyOf k) (valOf k n s) ∨ okB k n s = false ∧ e = no) ∧ Below w.heap.size w w' := by
  by_cases h1 : k = 1
  · subst h1
    by_cases hs : s.toList = []
    · cases ho : okNum n
      · exact (body_num_no n s w hs ho).mono fun e w' ⟨he, hb⟩ => ⟨.inr ⟨by simp [okB, hs, ho], he⟩, hb⟩
      · exact (body_num_yes n s w hs ho).mono fun e w' ⟨he, hb⟩ => ⟨.inl ⟨by simp [okB, hs, ho], he⟩, hb⟩
    · exact (body_num_not n s w hs).mono fun e w' ⟨he, hb⟩ => ⟨.inr ⟨by simp [okB, hs], he⟩, hb⟩
  · by_cases h2 : k = 2
    · subst h2
      by_cases hn : n = 0
      · subst hn
        cases ho : plainB s
        · exact (body_text_no s w hm ho).mono fun e w' ⟨he, hb⟩ => ⟨.inr ⟨by simp [okB, ho], he⟩, hb⟩
        · exact (body_text_yes s w hm ho).mono fun e w' ⟨he, hb⟩ => ⟨.inl ⟨by simp [okB, ho], he⟩, hb⟩
      · exact (body_text_not n s w hn).mono fun e w' ⟨he, hb⟩ => ⟨.inr ⟨by simp [okB, hn], he⟩, hb⟩
    · exact (body_none k n s w (by simp [h1]) (by simp [h2])).mono fun e w' ⟨he, hb⟩ => ⟨.inr ⟨by simp [okB, h1, h2], he⟩, hb⟩
theorem implMsgOk_any (k n : Int) (s : ByteArray) (w : World) (hm : s.size ≤ maxLen) :
    Calls Tryz.prog 79 #[.agg #[.int .i64 k, .int .i64 n, .string s]] w fun e w' => e = .returned (.bool (okB k n s)) ∧ Below w.heap.size w w' := by
  go_enter Tryz.func79, Tryz.ntmps79
  go_wp2_with fail
  refine (body_any k n s _ hm).mono ?_
  rintro e w' ⟨⟨ho, rfl⟩ | ⟨ho, rfl⟩, hb⟩
  · unfold yes
    have hb' := bl_trans (bl_alloc (Below.refl _ _) _) hb
    go_wp2
    go_ret
    exact ⟨ret_bool ho.symm, hb'⟩
  · unfold no
    have hb' := bl_trans (bl_alloc (Below.refl _ _) _) hb
    go_wp2
    go_ret
    exact ⟨ret_bool ho.symm, hb'⟩
end Go.Proofs.YtdboaoejlkkoeaaGreat
namespace Go.Proofs
open Go.Shelf
def Tryz.lays144_ren : Go.Shelf.Ren := ⟨fun | 144 => 206 | 143 => 210 | 219 => 211 | 217 => 212 | 225 => 213 | 224 => 214 | 267 => 215 | 266 => 216 | 314 => 217 | n => n, fun | 9 => 9 | 4 => 4 | 3 => 3 | 5 => 5 | 46 => 204 | 146 => 224 | 51 => 223 | n => n, fun | 1 => 0 | n => n⟩
theorem Tryz.lays144 : Go.Proofs.Lays.n144 Tryz.prog Tryz.lays144_ren := {
  mixed := by kernel_rfl
  f143 := Tryz.func210.trans (congrArg some (by kernel_rfl))
  f144 := Tryz.func206.trans (congrArg some (by kernel_rfl))
  f217 := Tryz.func212.trans (congrArg some (by kernel_rfl))
  f219 := Tryz.func211.trans (congrArg some (by kernel_rfl))
  f224 := Tryz.func214.trans (congrArg some (by kernel_rfl))
  f225 := Tryz.func213.trans (congrArg some (by kernel_rfl))
  f266 := Tryz.func216.trans (congrArg some (by kernel_rfl))
  f267 := Tryz.func215.trans (congrArg some (by kernel_rfl))
  f314 := Tryz.func217.trans (congrArg some (by kernel_rfl))
  t3 := Tryz.underlying3
  a3 := Tryz.isAgg3
  z3 := Tryz.sizeOf3
  v3 := Tryz.zeroValue3
  t4 := Tryz.underlying4
  a4 := Tryz.isAgg4
  z4 := Tryz.sizeOf4
  v4 := Tryz.zeroValue4
  t5 := Tryz.underlying5
  a5 := Tryz.isAgg5
  z5 := Tryz.sizeOf5
  v5 := Tryz.zeroValue5
  t9 := Tryz.underlying9
  a9 := Tryz.isAgg9
  z9 := Tryz.sizeOf9
  v9 := Tryz.zeroValue9
  t46 := Tryz.underlying204
  a46 := Tryz.isAgg204
  z46 := Tryz.sizeOf204
  v46 := Tryz.zeroValue204
  t51 := Tryz.underlying223
  a51 := Tryz.isAgg223
  z51 := Tryz.sizeOf223
  v51 := Tryz.zeroValue223
  t146 := Tryz.underlying224
  a146 := Tryz.isAgg224
  z146 := Tryz.sizeOf224
  v146 := Tryz.zeroValue224
  g1 := by kernel_rfl }
end Go.Proofs
namespace Go.Proofs.YtdboaoejlkkoeaaGreat
open Go.RowKit Pl Il
theorem big_any (a : Option Addr) (n cap : Nat) (w : World) :
    Calls Tryz.prog 18 #[.slice a n cap] w fun e w' => e = .returned (.bool (decide (1048576 < n))) ∧ w' = w := by
  go_enter Tryz.func18, Tryz.ntmps18
  go_wp2
  go_ret
  refine ⟨rbool ?_, rfl⟩
  rw [Bool.eq_iff_iff]; simp; try omega
theorem l15Ints_any (a a' : Option Addr) (n n' cap cap' : Nat) (xs ys : List Int) (w : World) (hI : IntsAt w a n xs) (hJ : IntsAt w a' n' ys) (hn : n ≤ 2097152) (hn' : n' ≤ 2097152) :
  Calls Tryz.prog 149 #[.slice a n cap, .slice a' n' cap'] w fun e w' => e = .returned (.bool (eqL xs ys)) ∧ Below w.heap.size w w' := by
 by_cases hl : n = n'
 ·subst hl
  obtain ⟨hlen, rfl | ⟨b, off, rfl, hb, hcell⟩⟩ := hI
  ·have : xs = [] := List.length_eq_zero_iff.1 hlen
   have e2 : ys = [] := List.length_eq_zero_iff.1 hJ.len
   subst this e2
   go_enter Tryz.func149, Tryz.ntmps149
   go_wp2
   go_loop [5] (fun i => i = .int .i64 0) (fun _ => 0)
   case atStart => rfl
   case round =>
    subst hrel
    go_wp2
    go_ret
    exact ⟨rfl, Below.refl _ _⟩
  ·obtain ⟨hlen', rfl | ⟨b', off', rfl, hb', hcell'⟩⟩ := hJ
   ·have : xs = [] := List.length_eq_zero_iff.1 hlen
    have e2 : ys = [] := List.length_eq_zero_iff.1 hlen'
    subst this e2
    go_enter Tryz.func149, Tryz.ntmps149
    go_wp2
    go_loop [5] (fun i => i = .int .i64 0) (fun _ => 0)
    case atStart => rfl
    case round =>
     subst hrel
     go_wp2
     go_ret
     exact ⟨rfl, Below.refl _ _⟩
   ·go_enter Tryz.func149, Tryz.ntmps149
    go_wp2
    go_loopw [5] (fun i wr => ∃ k : Nat, k ≤ n ∧ i = .int .i64 k ∧ xs.take k = ys.take k ∧ ∃ q, wr = w.drewN q) (fun i _ => n - (intOf i).toNat)
    case atStart => exact ⟨0, Nat.zero_le _, rfl, rfl, 0, rfl⟩
    case round =>
     obtain ⟨k, hk, rfl, hno, q, rfl⟩ := hrel
     have Hno : Hid _ := hno
     clear hno
     by_cases hlt : k < n
     ·have hc := hcell k hlt
      have hc' := hcell' k hlt
      generalize hy : xs.getD k 0 = y at hc
      generalize hz : ys.getD k 0 = z at hc'
      have HY : Hid _ := hy
      have HZ : Hid _ := hz
      clear hy hz hcell hcell'
      have hki : (k : Int) < (n : Int) := by omega
      cases hyz : (y != z)
      ·go_wp2
       go_quiet (fail)
       go_wp2
       go_roundw
       case rel => exact ⟨k + 1, by omega, by go_num, eq_step (by omega) (by omega) Hno.out (by rw [HY.out, HZ.out]; exact hyz), _, rfl⟩
       case measure => simp [intOf]; omega
      ·go_wp2
       go_quiet (fail)
       go_wp2
       go_ret
       exact ⟨rbool (eq_no (k := k) (by rw [HY.out, HZ.out]; exact hyz)).symm, bl_drewN (bl_drewN (Below.refl _ _) _) _⟩
     ·clear hcell hcell'
      go_wp2
      go_ret
      exact ⟨rbool (eq_end (by omega) (by omega) Hno.out).symm, bl_drewN (Below.refl _ _) _⟩
 ·have hne : ((n : Int) != (n' : Int)) = true := by simp; omega
  have hq := eq_len (xs := xs) (ys := ys) (by rw [hI.len, hJ.len]; exact hl)
  clear hI hJ
  go_enter Tryz.func149, Tryz.ntmps149
  go_wp2
  go_ret
  exact ⟨rbool hq.symm, Below.refl _ _⟩
open Go.RowKit Pl Il
theorem RIn.und {w : World} {M : Rm} {v : Rv} (h : RIn w M v) : ∀ p, p ∈ allR M → Und p.1 p.2 w.heap.size := fun p hp => by
  unfold allR at hp
  simp only [List.mem_cons, List.mem_map] at hp
  rcases hp with rfl | rfl | rfl | rfl | ⟨x, hx, rfl⟩
  · exact h.it.lt
  · exact h.sb.lt
  · exact und_ints h.ln
  · exact und_ints h.gs
  · exact (h.sb.fil x hx).lt
end Go.Proofs.YtdboaoejlkkoeaaGreat
namespace Go.Proofs.YtdboaoejlkkoeaaGreat.Dr
open Go.RowKit Pl
theorem and255 (x : Int) : 0 ≤ bits .and .i64 x 255 ∧ bits .and .i64 x 255 ≤ 255 := by
  unfold bits
  simp only
  have h : (BitVec.ofInt IntKind.i64.bits x &&& BitVec.ofInt IntKind.i64.bits 255).toNat ≤ 255 := by
    rw [BitVec.toNat_and]
    have e : (BitVec.ofInt IntKind.i64.bits 255).toNat = 255 := by decide
    rw [e]
    exact Nat.and_le_right
  generalize (BitVec.ofInt IntKind.i64.bits x &&& BitVec.ofInt IntKind.i64.bits 255).toNat = m at h
  rw [IntKind.wrap_i64]
  omega
abbrev Ex (c : Nat) (w w' : World) : Prop := w.grownBy w' (some c)
theorem Ex.refl (c : Nat) (w : World) : Ex c w w := ⟨rfl, rfl, rfl, Nat.le_refl _, fun _ _ _ => rfl⟩
theorem Ex.trans {c : Nat} {a b d : World} (h : Ex c a b) (k : Ex c b d) : Ex c a d :=
  ⟨k.os.trans h.os, k.tape.trans h.tape, k.output.trans h.output, Nat.le_trans h.size k.size, fun i hi hn => (k.block i (Nat.lt_of_lt_of_le hi h.size) hn).trans (h.block i hi hn)⟩
theorem Ex.of {c : Nat} {w w' : World} (h : Below w.heap.size w w') : Ex c w w' := ⟨h.os, h.tape, h.output, h.size, fun i hi _ => h.block i hi⟩
theorem Ex.below {c B : Nat} {w w' : World} (h : Ex c w w') (hB : B ≤ c) (hw : B ≤ w.heap.size) : Below B w w' :=
  ⟨h.os, h.tape, h.output, h.size, fun i hi => h.block i (by omega) (by simp; omega)⟩
theorem Ex.alloc {c : Nat} {a w : World} (h : Ex c a w) (o : Obj) : Ex c a (w.alloc o) := h.trans (Ex.of (bl_alloc (Below.refl _ _) o))
theorem Ex.drew {c : Nat} {a w : World} (h : Ex c a w) : Ex c a w.drew := ⟨h.os, h.tape, h.output, h.size, h.block⟩
theorem Ex.drewN {c : Nat} {a w : World} (h : Ex c a w) (n : Nat) : Ex c a (w.drewN n) := ⟨h.os, h.tape, h.output, h.size, h.block⟩
theorem Ex.setCell {c : Nat} {a w : World} (h : Ex c a w) (p : Addr) (hp : p.block = c) (v : Value) : Ex c a (w.setCell p v) := by
  refine h.trans ⟨rfl, rfl, rfl, by simp, fun i _ hn => Below.heap_setCell w p v i ?_⟩
  rintro rfl; exact hn (by rw [hp])
theorem Ex.cell {c : Nat} {w w' : World} (h : Ex c w w') {b o : Nat} (hb : b < w.heap.size) (hn : b ≠ c) : w'.cell? ⟨b, o, none⟩ = w.cell? ⟨b, o, none⟩ :=
  h.cell_far ⟨b, o, none⟩ hb (by simp [hn])
theorem Ex.frozen {c : Nat} {w w' : World} (h : Ex c w w') {b o : Nat} (hb : b < w.heap.size) (hn : b ≠ c) : w'.frozen? ⟨b, o, none⟩ = w.frozen? ⟨b, o, none⟩ :=
  h.frozen_far ⟨b, o, none⟩ hb (by simp [hn])
def Bytes (c : Nat) (w : World) (a : Option Addr) (len cap : Nat) : Prop :=
  len ≤ 1048577 ∧ cap ≤ maxLen ∧ (len = 0 ∨ ∃ b off : Nat, a = some ⟨b, off, none⟩ ∧ b < w.heap.size ∧ b ≠ c ∧ ∀ i, i < len → ∃ n : Int, w.cell? ⟨b, off + i, none⟩ = some (.int .u8 n) ∧ 0 ≤ n ∧ n ≤ 255)
theorem Bytes.keep {c : Nat} {w w' : World} {a : Option Addr} {len cap : Nat} (h : Bytes c w a len cap) (hx : Ex c w w') : Bytes c w' a len cap := by
  obtain ⟨hl, hm, h | ⟨b, off, rfl, hb, hn, hc⟩⟩ := h
  · exact ⟨hl, hm, .inl h⟩
  · refine ⟨hl, hm, .inr ⟨b, off, rfl, Nat.lt_of_lt_of_le hb hx.size, hn, fun i hi => ?_⟩⟩
    rw [hx.cell hb hn]; exact hc i hi
structure Cur (c : Nat) (a : Option Addr) (len cap : Nat) (w : World) : Prop where
  lt : c < w.heap.size
  bytes : Bytes c w a len cap
  at0 : w.cell? ⟨c, 0, none⟩ = some (.slice a len cap)
  at1 : ∃ i : Nat, i ≤ len ∧ w.cell? ⟨c, 1, none⟩ = some (.int .i64 i)
  at2 : ∃ h : Int, w.cell? ⟨c, 2, none⟩ = some (.int .i64 h)
  fr1 : w.frozen? ⟨c, 1, none⟩ = false
  fr2 : w.frozen? ⟨c, 2, none⟩ = false
theorem Cur.keep {c : Nat} {a : Option Addr} {len cap : Nat} {w w' : World} (h : Cur c a len cap w) (hb : Below w.heap.size w w') : Cur c a len cap w' where
  lt := Nat.lt_of_lt_of_le h.lt hb.size
  bytes := h.bytes.keep (Ex.of hb)
  at0 := by rw [hb.cell (p := ⟨c, 0, none⟩) h.lt]; exact h.at0
  at1 := by rw [hb.cell (p := ⟨c, 1, none⟩) h.lt]; exact h.at1
  at2 := by rw [hb.cell (p := ⟨c, 2, none⟩) h.lt]; exact h.at2
  fr1 := by rw [hb.frozen (p := ⟨c, 1, none⟩) h.lt]; exact h.fr1
  fr2 := by rw [hb.frozen (p := ⟨c, 2, none⟩) h.lt]; exact h.fr2
theorem Cur.alloc {c : Nat} {a : Option Addr} {len cap : Nat} {w : World} (h : Cur c a len cap w) (o : Obj) : Cur c a len cap (w.alloc o) := h.keep (bl_alloc (Below.refl _ _) o)
theorem Cur.drew {c : Nat} {a : Option Addr} {len cap : Nat} {w : World} (h : Cur c a len cap w) : Cur c a len cap w.drew := h.keep (Below.refl _ _).drew
theorem Cur.drewN {c : Nat} {a : Option Addr} {len cap : Nat} {w : World} (h : Cur c a len cap w) (n : Nat) : Cur c a len cap (w.drewN n) :=
  h.keep ⟨rfl, rfl, rfl, Nat.le_refl _, fun _ _ => rfl⟩
theorem Cur.wrote2 {c : Nat} {a : Option Addr} {len cap : Nat} {w : World} (h : Cur c a len cap w) (x : Int) : Cur c a len cap (w.setCell ⟨c, 2, none⟩ (.int .i64 x)) := by
  obtain ⟨y, hy⟩ := h.at2
  refine ⟨by simpa using h.lt, h.bytes.keep ((Ex.refl _ _).setCell _ rfl _), ?_, ?_, ⟨x, World.cell?_setCell_same _ _ _ hy⟩, by simpa using h.fr1, by simpa using h.fr2⟩
  · rw [World.cell?_setCell_other _ _ _ _ (by simp)]; exact h.at0
  · rw [World.cell?_setCell_other _ _ _ _ (by simp)]; exact h.at1
theorem Cur.wrote1 {c : Nat} {a : Option Addr} {len cap : Nat} {w : World} (h : Cur c a len cap w) (v : Int) (i : Nat) (hv : v = (i : Int)) (hi : i ≤ len) : Cur c a len cap (w.setCell ⟨c, 1, none⟩ (.int .i64 v)) := by
  subst hv
  obtain ⟨y, _, hy⟩ := h.at1
  refine ⟨by simpa using h.lt, h.bytes.keep ((Ex.refl _ _).setCell _ rfl _), ?_, ⟨i, hi, World.cell?_setCell_same _ _ _ hy⟩, ?_, by simpa using h.fr1, by simpa using h.fr2⟩
  · rw [World.cell?_setCell_other _ _ _ _ (by simp)]; exact h.at0
  · rw [World.cell?_setCell_other _ _ _ _ (by simp)]; exact h.at2
theorem Cur.store {c : Nat} {a : Option Addr} {len cap : Nat} {w : World} (h : Cur c a len cap w) {p : Addr} (hp : p.block ≠ c) (hq : ∀ b off, len ≠ 0 → a = some ⟨b, off, none⟩ → b ≠ p.block) (v : Value) : Cur c a len cap (w.setCell p v) := by
  have hx : ∀ k, k ≠ p.block → (w.setCell p v).heap[k]? = w.heap[k]? := fun k hk => Below.heap_setCell w p v k hk
  have hcell : ∀ o, (w.setCell p v).cell? ⟨c, o, none⟩ = w.cell? ⟨c, o, none⟩ := fun o => World.cell?_of_block (w := w) (hx c (Ne.symm hp))
  have hfr : ∀ o, (w.setCell p v).frozen? ⟨c, o, none⟩ = w.frozen? ⟨c, o, none⟩ := fun o => World.frozen?_of_block (w := w) (hx c (Ne.symm hp))
  refine ⟨by simpa using h.lt, ?_, by rw [hcell]; exact h.at0, by rw [hcell]; exact h.at1, by rw [hcell]; exact h.at2, by rw [hfr]; exact h.fr1, by rw [hfr]; exact h.fr2⟩
  obtain ⟨hl, hm, k | ⟨b, off, rfl, hb, hn, hc⟩⟩ := h.bytes
  · exact ⟨hl, hm, .inl k⟩
  · refine ⟨hl, hm, .inr ⟨b, off, rfl, by simpa using hb, hn, fun i hi => ?_⟩⟩
    have : (w.setCell p v).cell? ⟨b, off + i, none⟩ = w.cell? ⟨b, off + i, none⟩ := World.cell?_of_block (w := w) (hx b (hq _ _ (by omega) rfl))
    rw [this]; exact hc i hi
end Go.Proofs.YtdboaoejlkkoeaaGreat.Dr
namespace Go.Proofs.YtdboaoejlkkoeaaGreat
open Go.RowKit Pl Dr
structure Drawn (c : Nat) (a : Option Addr) (len cap : Nat) (w w' : World) : Prop where
  cur : Cur c a len cap w'
  ex : Ex c w w'
theorem byte_end (a : Option Addr) (len cap : Nat) (c : Nat) (i : Nat) (h : Int) (w : World) (hC : Cur c a len cap w) (hi : ¬ i < len)
    (h0 : w.cell? ⟨c, 0, none⟩ = some (.slice a len cap)) (h1 : w.cell? ⟨c, 1, none⟩ = some (.int .i64 i)) (h2 : w.cell? ⟨c, 2, none⟩ = some (.int .i64 h)) (f2 : w.frozen? ⟨c, 2, none⟩ = false) :
    Calls Tryz.prog 162 #[.pointer (some ⟨c, 0, none⟩)] w fun e w' => ∃ x : Int, e = .returned (.int .i64 x) ∧ 0 ≤ x ∧ x ≤ 255 ∧ Drawn c a len cap w w' := by
  go_enter Tryz.func162, Tryz.ntmps162
  go_wp2
  go_quiet (fail)
  go_wp2
  go_quiet (fail)
  go_wp2
  go_ret
  exact ⟨_, rfl, (and255 _).1, (and255 _).2, ((hC.wrote2 _).drewN _).drewN _, (((Ex.refl _ _).setCell _ rfl _).drewN _).drewN _⟩
theorem byte_more (b off : Nat) (len cap : Nat) (c : Nat) (i : Nat) (h n : Int) (w : World) (hC : Cur c (some ⟨b, off, none⟩) len cap w) (hi : i < len) (hl : len ≤ 1048577) (hb : b ≠ c)
    (h0 : w.cell? ⟨c, 0, none⟩ = some (.slice (some ⟨b, off, none⟩) len cap)) (h1 : w.cell? ⟨c, 1, none⟩ = some (.int .i64 i)) (h2 : w.cell? ⟨c, 2, none⟩ = some (.int .i64 h))
    (hn : w.cell? ⟨b, off + i, none⟩ = some (.int .u8 n)) (n0 : 0 ≤ n) (n1 : n ≤ 255) (f1 : w.frozen? ⟨c, 1, none⟩ = false) (f2 : w.frozen? ⟨c, 2, none⟩ = false) :
    Calls Tryz.prog 162 #[.pointer (some ⟨c, 0, none⟩)] w fun e w' => ∃ x : Int, e = .returned (.int .i64 x) ∧ 0 ≤ x ∧ x ≤ 255 ∧ Drawn c (some ⟨b, off, none⟩) len cap w w' := by
  go_enter Tryz.func162, Tryz.ntmps162
  go_wp2
  go_quiet (fail)
  go_wp2
  go_quiet (fail)
  go_wp2
  go_quiet (fail)
  go_wp2
  go_ret
  refine ⟨_, rfl, (and255 _).1, (and255 _).2, ?_, ?_⟩
  · exact ((hC.wrote2 _).drewN _).wrote1 _ (i + 1) (by omega) (by omega)
  · exact (((Ex.refl c w).setCell ⟨c, 2, none⟩ rfl _).drewN _).setCell ⟨c, 1, none⟩ rfl _
theorem byte_any (a : Option Addr) (len cap : Nat) (c : Nat) (w : World) (hC : Cur c a len cap w) :
    Calls Tryz.prog 162 #[.pointer (some ⟨c, 0, none⟩)] w fun e w' => ∃ x : Int, e = .returned (.int .i64 x) ∧ 0 ≤ x ∧ x ≤ 255 ∧ Drawn c a len cap w w' := by
  obtain ⟨i, hi, h1⟩ := hC.at1
  obtain ⟨h, h2⟩ := hC.at2
  by_cases hlt : i < len
  · obtain ⟨hl, _, k | ⟨b, off, rfl, _, hbc, hc⟩⟩ := hC.bytes
    · omega
    · obtain ⟨n, hn, n0, n1⟩ := hc i hlt
      exact byte_more b off len cap c i h n w hC hlt hl hbc hC.at0 h1 h2 hn n0 n1 hC.fr1 hC.fr2
  · exact byte_end a len cap c i h w hC hlt hC.at0 h1 h2 hC.fr2
theorem below_any (a : Option Addr) (len cap : Nat) (c : Nat) (n : Int) (w : World) (hC : Cur c a len cap w) (h0 : 0 < n) (h1 : n ≤ 256) :
    Calls Tryz.prog 110 #[.pointer (some ⟨c, 0, none⟩), .int .i64 n] w fun e w' => ∃ x : Int, e = .returned (.int .i64 x) ∧ 0 ≤ x ∧ x < n ∧ Drawn c a len cap w w' := by
  have hn : ¬ n = 0 := by omega
  have hn' : ¬ n ≤ 0 := by omega
  go_enter Tryz.func110, Tryz.ntmps110
  go_wp2_with fail
  refine (byte_any a len cap c _ hC).mono ?_
  rintro e w1 ⟨x, rfl, x0, x1, hd⟩
  go_wp2
  go_ret
  exact ⟨_, rfl, Int.emod_nonneg _ hn, Int.emod_lt_of_pos _ h0, hd⟩
theorem once_any (a : Option Addr) (len cap : Nat) (c : Nat) (n : Int) (w : World) (hC : Cur c a len cap w) (h0 : 0 < n) (h1 : n ≤ 256) :
    Calls Tryz.prog 75 #[.pointer (some ⟨c, 0, none⟩), .int .i64 n] w fun e w' => ∃ x : Bool, e = .returned (.bool x) ∧ Drawn c a len cap w w' := by
  go_enter Tryz.func75, Tryz.ntmps75
  go_wp2_with fail
  refine (below_any a len cap c n _ hC h0 h1).mono ?_
  rintro e w1 ⟨x, rfl, x0, x1, hd⟩
  go_wp2
  go_ret
  exact ⟨_, rfl, hd⟩
open Go.RowKit Pl Dr
theorem Drawn.start {c : Nat} {a : Option Addr} {len cap : Nat} {w : World} (h : Cur c a len cap w) : Drawn c a len cap w w := ⟨h, Ex.refl _ _⟩
theorem Drawn.trans {c : Nat} {a : Option Addr} {len cap : Nat} {w u v : World} (h : Drawn c a len cap w u) (k : Drawn c a len cap u v) : Drawn c a len cap w v := ⟨k.cur, h.ex.trans k.ex⟩
theorem Drawn.alloc {c : Nat} {a : Option Addr} {len cap : Nat} {w u : World} (h : Drawn c a len cap w u) (o : Obj) : Drawn c a len cap w (u.alloc o) := ⟨h.cur.alloc o, h.ex.alloc o⟩
theorem Drawn.drew {c : Nat} {a : Option Addr} {len cap : Nat} {w u : World} (h : Drawn c a len cap w u) : Drawn c a len cap w u.drew := ⟨h.cur.drew, h.ex.drew⟩
theorem Drawn.store {c : Nat} {a : Option Addr} {len cap : Nat} {w u : World} (h : Drawn c a len cap w u) (hC : Cur c a len cap w) (p : Addr) (hp : w.heap.size ≤ p.block) (v : Value) : Drawn c a len cap w (u.setCell p v) := by
  have hne : p.block ≠ c := by have := hC.lt; omega
  refine ⟨h.cur.store hne ?_ v, ?_⟩
  · intro b off h0 e
    obtain ⟨_, _, k | ⟨b', off', k, hb, _⟩⟩ := hC.bytes
    · exact absurd k h0
    · rw [e] at k; cases k; omega
  · refine ⟨h.ex.os, h.ex.tape, h.ex.output, by simpa using h.ex.size, fun i hi hn => ?_⟩
    rw [Below.heap_setCell u p v i (by omega)]
    exact h.ex.block i hi hn
theorem Drawn.at {c : Nat} {a : Option Addr} {len cap : Nat} {w u : World} (h : Drawn c a len cap w u) (b : Nat) (hb : b < w.heap.size) (hn : b ≠ c) :
    (∀ o, u.cell? ⟨b, o, none⟩ = w.cell? ⟨b, o, none⟩) ∧ (∀ o, u.frozen? ⟨b, o, none⟩ = w.frozen? ⟨b, o, none⟩) :=
  ⟨fun _ => h.ex.cell hb hn, fun _ => h.ex.frozen hb hn⟩
def strsB (cs : Array Value) (n : Nat) : Bool := (List.range n).all fun i => match cs[i]? with | some (.string v) => decide (v.size ≤ 40) | _ => false
def intsB (cs : Array Value) (n : Nat) : Bool := (List.range n).all fun i => match cs[i]? with | some (.int .i64 _) => true | _ => false
theorem row_strs (w : World) (cs : Array Value) (t : TypeId) (n : Nat) (h : strsB cs n = true) : ∀ i, i < n → ∃ v : ByteArray, (w.alloc (.cells cs t)).cell? ⟨w.heap.size, i, none⟩ = some (.string v) ∧ v.size ≤ 40 := by
  intro i hi
  rw [World.cell?_alloc_new]
  have := (List.all_eq_true.1 h) i (List.mem_range.2 hi)
  split at this
  · rename_i v hv; exact ⟨v, hv, by simpa using this⟩
  · cases this
theorem row_ints (w : World) (cs : Array Value) (t : TypeId) (n : Nat) (h : intsB cs n = true) : ∀ i, i < n → ∃ v : Int, (w.alloc (.cells cs t)).cell? ⟨w.heap.size, i, none⟩ = some (.int .i64 v) := by
  intro i hi
  rw [World.cell?_alloc_new]
  have := (List.all_eq_true.1 h) i (List.mem_range.2 hi)
  split at this
  · rename_i v hv; exact ⟨v, hv⟩
  · cases this
theorem pickInt_any (a : Option Addr) (len cap : Nat) (c B n : Nat) (w : World) (hC : Cur c a len cap w) (hB : B < w.heap.size) (hBc : B ≠ c) (h0 : 0 < n) (h1 : n ≤ 256)
    (hcell : ∀ i, i < n → ∃ v : Int, w.cell? ⟨B, i, none⟩ = some (.int .i64 v)) :
    Calls Tryz.prog 100 #[.pointer (some ⟨c, 0, none⟩), .slice (some ⟨B, 0, none⟩) n n] w fun e w' => ∃ x : Int, e = .returned (.int .i64 x) ∧ Drawn c a len cap w w' := by
  go_enter Tryz.func100, Tryz.ntmps100
  go_wp2_with fail
  refine (below_any a len cap c n _ hC (by omega) (by omega)).mono ?_
  rintro e w1 ⟨x, rfl, x0, x1, hd⟩
  obtain ⟨k, rfl⟩ := Int.eq_ofNat_of_zero_le x0
  obtain ⟨v, hv⟩ := hcell k (by omega)
  have hv1 : w1.cell? ⟨B, k, none⟩ = some (.int .i64 v) := by rw [hd.ex.cell hB hBc]; exact hv
  clear hcell
  go_wp2
  go_ret
  exact ⟨_, rfl, hd⟩
theorem pick_any (a : Option Addr) (len cap : Nat) (c B n : Nat) (w : World) (hC : Cur c a len cap w) (hB : B < w.heap.size) (hBc : B ≠ c) (h0 : 0 < n) (h1 : n ≤ 256)
    (hcell : ∀ i, i < n → ∃ v : ByteArray, w.cell? ⟨B, i, none⟩ = some (.string v) ∧ v.size ≤ 40) :
    Calls Tryz.prog 137 #[.pointer (some ⟨c, 0, none⟩), .slice (some ⟨B, 0, none⟩) n n] w fun e w' => ∃ x : ByteArray, e = .returned (.string x) ∧ x.size ≤ 40 ∧ Drawn c a len cap w w' := by
  go_enter Tryz.func137, Tryz.ntmps137
  go_wp2_with fail
  refine (below_any a len cap c n _ hC (by omega) (by omega)).mono ?_
  rintro e w1 ⟨x, rfl, x0, x1, hd⟩
  obtain ⟨k, rfl⟩ := Int.eq_ofNat_of_zero_le x0
  obtain ⟨v, hv, hs⟩ := hcell k (by omega)
  have hv1 : w1.cell? ⟨B, k, none⟩ = some (.string v) := by rw [hd.ex.cell hB hBc]; exact hv
  clear hcell
  go_wp2
  go_ret
  exact ⟨_, rfl, hs, hd⟩
theorem Pl.Box3.drawn {N : Nat} {v0 v1 v2 : Value} {c : Nat} {a : Option Addr} {len cap : Nat} {w u : World} (h : Box3 N v0 v1 v2 w) (hd : Drawn c a len cap w u) (hn : N ≠ c) : Box3 N v0 v1 v2 u where
  lt := Nat.lt_of_lt_of_le h.lt hd.ex.size
  c0 := by rw [hd.ex.cell h.lt hn]; exact h.c0
  c1 := by rw [hd.ex.cell h.lt hn]; exact h.c1
  c2 := by rw [hd.ex.cell h.lt hn]; exact h.c2
  fr := fun o => by rw [hd.ex.frozen h.lt hn]; exact h.fr o
theorem msg_any (a : Option Addr) (len cap : Nat) (c : Nat) (w : World) (hC : Cur c a len cap w) :
    Calls Tryz.prog 77 #[.pointer (some ⟨c, 0, none⟩)] w fun e w' => ∃ (k n : Int) (s : ByteArray), e = .returned (.agg #[.int .i64 k, .int .i64 n, .string s]) ∧ s.size ≤ 40 ∧ Drawn c a len cap w w' := by
  have hlt := hC.lt
  have hne : w.heap.size ≠ c := by omega
  go_enter Tryz.func77, Tryz.ntmps77
  go_wp2_with fail
  refine (once_any a len cap c _ _ (hC.alloc _) (by omega) (by omega)).mono ?_
  rintro e w1 ⟨x, rfl, hd1⟩
  have b1 := (Box3.new w (.int .i64 0) (.int .i64 0) (.string ⟨#[]⟩) 30).drawn hd1 hne
  have hD1 : Drawn c a len cap w w1 := ((Drawn.start hC).alloc _).trans hd1
  clear hd1
  cases x
  · go_wp2_with fail
    refine (below_any a len cap c _ _ hD1.cur (by omega) (by omega)).mono ?_
    rintro e w2 ⟨n, rfl, n0, n1, hd2⟩
    have b2 := b1.drawn hd2 hne
    have hD2 := hD1.trans hd2
    clear hd2 hD1 b1
    go_wp2_with fail
    refine (once_any a len cap c _ _ hD2.cur (by omega) (by omega)).mono ?_
    rintro e w3 ⟨x, rfl, hd3⟩
    have b3 := b2.drawn hd3 hne
    have hD3 := hD2.trans hd3
    clear hd3 hD2 b2
    cases x
    · obtain ⟨l3, p0, p1, p2, fr⟩ := b3
      go_wp2
      refine bodyPost_ret (v := .agg #[.int .i64 1, .int .i64 (n - 10), .string ⟨#[]⟩]) (by simp [results, Tryz.results77, go_sem, p0, p1, p2]) rfl ⟨_, _, _, rfl, by decide, ?_⟩
      exact ((hD3.store hC _ (Nat.le_refl _) _).store hC _ (Nat.le_refl _) _).store hC _ (Nat.le_refl _) _
    · go_wp2_with fail
      refine (pickInt_any a len cap c w3.heap.size 3 _ (hD3.cur.alloc _) (by simp) (by have := hD3.cur.lt; omega) (by omega) (by omega) (row_ints _ _ _ _ (by decide))).mono ?_
      rintro e w4 ⟨x, rfl, hd4⟩
      obtain ⟨l4, p0, p1, p2, fr⟩ := (b3.alloc _).drawn hd4 hne
      have hD4 := (hD3.alloc _).trans hd4
      clear hd4 hD3
      go_wp2
      refine bodyPost_ret (v := .agg #[.int .i64 1, .int .i64 x, .string ⟨#[]⟩]) (by simp [results, Tryz.results77, go_sem, p0, p1, p2]) rfl ⟨_, _, _, rfl, by decide, ?_⟩
      exact ((hD4.store hC _ (Nat.le_refl _) _).store hC _ (Nat.le_refl _) _).store hC _ (Nat.le_refl _) _
  · go_wp2_with fail
    refine (pick_any a len cap c w1.heap.size 8 _ (hD1.cur.alloc _) (by simp) (by have := hD1.cur.lt; omega) (by omega) (by omega) (row_strs _ _ _ _ (by decide))).mono ?_
    rintro e w2 ⟨s, rfl, hs, hd2⟩
    obtain ⟨l2, p0, p1, p2, fr⟩ := (b1.alloc _).drawn hd2 hne
    have hD2 := (hD1.alloc _).trans hd2
    clear hd2 hD1
    go_wp2
    refine bodyPost_ret (v := .agg #[.int .i64 2, .int .i64 0, .string s]) (by simp [results, Tryz.results77, go_sem, p0, p1, p2]) rfl ⟨_, _, _, rfl, hs, ?_⟩
    exact ((hD2.store hC _ (Nat.le_refl _) _).store hC _ (Nat.le_refl _) _).store hC _ (Nat.le_refl _) _
open Go.RowKit Pl Dr
theorem Cur.new (w : World) (a : Option Addr) (len cap : Nat) (h : Int) (t : TypeId) (hB : Bytes w.heap.size w a len cap) :
    Cur w.heap.size a len cap (w.alloc (.cells #[.slice a len cap, .int .i64 0, .int .i64 h] t)) :=
  ⟨by simp, hB.keep (Ex.of (bl_alloc (Below.refl _ _) _)), by simp, ⟨0, Nat.zero_le _, by simp⟩, ⟨h, by simp⟩, by simp [go_sem], by simp [go_sem]⟩
theorem new_nil (a : Option Addr) (cap : Nat) (w : World) (hB : Bytes w.heap.size w a 0 cap) :
    Calls Tryz.prog 73 #[.slice a 0 cap] w fun e w' => e = .returned (.pointer (some ⟨w.heap.size, 0, none⟩)) ∧ Cur w.heap.size a 0 cap w' ∧ Below w.heap.size w w' := by
  go_enter Tryz.func73, Tryz.ntmps73
  go_wp2
  go_loop [3, 4] (fun h i => i = .int .i64 0 ∧ ∃ n : Int, h = .int .i64 n) (fun _ _ => 0)
  case atStart => exact ⟨rfl, _, rfl⟩
  case round =>
    obtain ⟨rfl, n, rfl⟩ := hrel
    go_wp2
    go_ret
    exact ⟨rfl, Cur.new w a 0 cap n _ hB, bl_alloc (Below.refl _ _) _⟩
theorem new_row (b off len cap : Nat) (w : World) (hB : Bytes w.heap.size w (some ⟨b, off, none⟩) len cap) (hl : len ≤ 1048577)
    (hc : ∀ i, i < len → ∃ n : Int, w.cell? ⟨b, off + i, none⟩ = some (.int .u8 n) ∧ 0 ≤ n ∧ n ≤ 255) :
    Calls Tryz.prog 73 #[.slice (some ⟨b, off, none⟩) len cap] w fun e w' => e = .returned (.pointer (some ⟨w.heap.size, 0, none⟩)) ∧ Cur w.heap.size (some ⟨b, off, none⟩) len cap w' ∧ Below w.heap.size w w' := by
  go_enter Tryz.func73, Tryz.ntmps73
  go_wp2
  go_loop [3, 4] (fun h i => (∃ k : Nat, k ≤ len ∧ i = .int .i64 k) ∧ ∃ n : Int, h = .int .i64 n) (fun _ i => len - (intOf i).toNat)
  case atStart => exact ⟨⟨0, Nat.zero_le _, rfl⟩, _, rfl⟩
  case round =>
    obtain ⟨⟨k, hk, rfl⟩, n, rfl⟩ := hrel
    by_cases hlt : k < len
    · obtain ⟨x, hx, x0, x1⟩ := hc k hlt
      by_cases h4 : (k : Int) < 4000
      · go_wp2
        go_round
        case rel => exact ⟨⟨k + 1, by omega, by go_num⟩, _, rfl⟩
        case measure => simp [intOf]; omega
      · go_wp2
        go_ret
        exact ⟨rfl, Cur.new w _ len cap n _ hB, bl_alloc (Below.refl _ _) _⟩
    · go_wp2
      go_ret
      exact ⟨rfl, Cur.new w _ len cap n _ hB, bl_alloc (Below.refl _ _) _⟩
theorem new_any (a : Option Addr) (len cap : Nat) (w : World) (hB : Bytes w.heap.size w a len cap) :
    Calls Tryz.prog 73 #[.slice a len cap] w fun e w' => e = .returned (.pointer (some ⟨w.heap.size, 0, none⟩)) ∧ Cur w.heap.size a len cap w' ∧ Below w.heap.size w w' := by
  obtain ⟨hl, _, rfl | ⟨b, off, rfl, hb, hn, hc⟩⟩ := id hB
  · exact new_nil a cap w hB
  · exact new_row b off len cap w hB hl hc
end Go.Proofs.YtdboaoejlkkoeaaGreat
namespace Go.Proofs.YtdboaoejlkkoeaaGreat
open Go.RowKit Pl
def newC (c : Int) : Int := if 1 ≤ c ∧ c ≤ 16 then c else 0
def newK (c : Int) : Int := if 1 ≤ c ∧ c ≤ 16 then 0 else 1
theorem l1InR_any (x a b : Int) (w : World) : Calls Tryz.prog 89 #[.int .i64 x, .int .i64 a, .int .i64 b] w fun e w' => e = .returned (.bool (decide (a ≤ x ∧ x ≤ b))) ∧ w' = w := by
  by_cases h1 : a ≤ x
  · by_cases h2 : x ≤ b
    all_goals
      go_enter Tryz.func89, Tryz.ntmps89
      go_wp2
      go_ret
      exact ⟨by simp [h1, h2], rfl⟩
  · go_enter Tryz.func89, Tryz.ntmps89
    go_wp2
    go_ret
    refine ⟨?_, rfl⟩
    have h2 : decide (a ≤ x) = false := by simp only [decide_eq_false_iff_not]; omega
    simp only [h2, Bool.false_and]
    rfl
theorem specNewRing_any (c : Int) (w : World) : Calls Tryz.prog 171 #[.int .i64 c] w fun e w' => e = .returned (.tuple #[.agg #[.int .i64 (newC c), .int .i64 0, .slice none 0 0, .int .i64 0, .slice none 0 0, .slice none 0 0, .slice none 0 0, .bool false], .int .i64 (newK c)]) ∧ Below w.heap.size w w' := by
  by_cases h : 1 ≤ c ∧ c ≤ 16
  · have e1 : newC c = c := by unfold newC; rw [if_pos h]
    have e2 : newK c = 0 := by unfold newK; rw [if_pos h]
    have h' : decide (1 ≤ c ∧ c ≤ 16) = true := by simp [h]
    rw [e1, e2]
    clear e1 e2
    go_enter Tryz.func171, Tryz.ntmps171
    go_wp2_with (go_at_call 89; refine (l1InR_any _ _ _ _).mono ?_; rintro e w' ⟨rfl, rfl⟩; rw [h'])
    refine bodyPost_ret (v := .tuple #[.agg #[.int .i64 c, .int .i64 0, .slice none 0 0, .int .i64 0, .slice none 0 0, .slice none 0 0, .slice none 0 0, .bool false], .int .i64 0]) (by simp [results, Tryz.results171, go_sem]) rfl ⟨rfl, ?_⟩
    repeat (first | exact Below.refl _ _ | apply Below.drew | apply bl_alloc)
  · have e1 : newC c = 0 := by unfold newC; rw [if_neg h]
    have e2 : newK c = 1 := by unfold newK; rw [if_neg h]
    have h' : decide (1 ≤ c ∧ c ≤ 16) = false := by simp only [decide_eq_false_iff_not]; exact h
    rw [e1, e2]
    clear e1 e2
    go_enter Tryz.func171, Tryz.ntmps171
    go_wp2_with (go_at_call 89; refine (l1InR_any _ _ _ _).mono ?_; rintro e w' ⟨rfl, rfl⟩; rw [h'])
    refine bodyPost_ret (v := .tuple #[.agg #[.int .i64 0, .int .i64 0, .slice none 0 0, .int .i64 0, .slice none 0 0, .slice none 0 0, .slice none 0 0, .bool false], .int .i64 1]) (by simp [results, Tryz.results171, go_sem]) rfl ⟨rfl, ?_⟩
    repeat (first | exact Below.refl _ _ | apply Below.drew | apply bl_alloc)
end Go.Proofs.YtdboaoejlkkoeaaGreat
namespace Go.Proofs.YtdboaoejlkkoeaaGreat
open Go.RowKit
section
variable {F : Fence} {n : Nat} {P : Program}
def stPost {σ : Type} (I : σ → World → Prop) (X : Code → σ → World → Prop) (s : σ) (W : World) : Exit → Act → World → Prop
  | .normal, _, W' => KeepsOthers W W' ∧ I s W'
  | .ret, _, W' => KeepsOthers W W' ∧ X .ret s W'
  | .exit id, _, W' => KeepsOthers W W' ∧ X (.exit id) s W'
  | .goto t, _, W' => KeepsOthers W W' ∧ X (.goto t) s W'
  | .panic _, _, _ => False
  | .outgrown, _, _ => False
def StpF (B : Nat) (W W' : World) : Prop := W.heap.size ≤ W'.heap.size ∧ ∀ i, B ≤ i → i < W.heap.size → W'.heap[i]? = W.heap[i]?
def SeqSt {σ : Type} (F : Fence) (n : Nat) (P : Program) (gf : Nat) (lb : Array Value) (B : Nat) (I : σ → World → Prop) (M : σ → Array Value → World → Prop) (S : σ → Prop) (s0 : σ) : Prop :=
  ∀ (l : Nat) (J : σ → World → Prop) (K : σ → Array Value → World → Prop) (Z : σ → World → Prop) (W : World),
    (∀ s V, J s V → I s V) → (∀ s V s' args V', J s V → M s' args V' → StpF B V V' → K s' args V') → (∀ s V V', J s V → I s V' → StpF B V V' → J s V') →
    (∀ s args V, K s args V → YieldAt F (n - 1) P l args V fun e V' => (e = .returned (.bool true) ∧ J s V') ∨ (e = .returned (.bool false) ∧ Z s V')) →
    J s0 W → CallsIn F n P gf (#[.func (.yield l) #[] #[]] ++ lb) W fun e W' => (∃ v, e = .returned v) ∧ ((∃ s, S s ∧ J s W') ∨ (∃ s, Z s W'))
theorem wpIn_rangeFunc_st {σ : Type} {g : Operand} {ps : Array Tmp} {assign body : Code} {Q : Exit → Act → World → Prop} {a : Act} {w : World}
    (hro : F.round = none) (h1 : 1 ≤ n) {gf : Nat} {lb : Array Value} (hg : a.eval g = .func (.func gf) #[] lb) (hFg : F.fn gf) (eg : ∀ args w, (callFunc gf args).run P w = .ok (.enter gf args) w)
    (I : σ → World → Prop) (M : σ → Array Value → World → Prop) (X : Code → σ → World → Prop) (S : σ → Prop) (s0 : σ)
    (hseq : SeqSt F (n - 1) P gf lb w.heap.size I M S s0)
    (hI : OwnFrom w.heap.size I) (hX : ∀ c, OwnFrom w.heap.size (X c)) (h0 : I s0 w)
    (hround : ∀ (l : Nat) (s : σ) (args : Array Value) (W : World), w.heap.size ≤ l → l < W.heap.size → (∃ r, W.heap[l]? = some (.loop r)) → M s args W → args.size = ps.size ∧
      assign.wpIn (F.inRound l) (n - 1 - 1) P (Exit.then (fun a₁ W₁ => KeepsOthers W W₁ ∧ ∀ r, body.wpIn (F.inRound l) (n - 1 - 1) P (stPost I X s (W₁.putObj l (.loop r))) a₁ (W₁.putObj l (.loop r))) (fun _ _ _ => False))
        { tmps := (ps.zip args).foldl (fun t (p, v) => t.setIfInBounds p v) a.tmps, defers := [] } W)
    (hdone : ∀ (D : Nat) (s : σ) (W : World), w.heap.size ≤ D → S s → I s W → W.heap[D]? = some (.deferred (some [])) → Q .normal { a with defers := { target := .collected D, args := #[] } :: a.defers } W)
    (hstop : ∀ (D : Nat) (c : Code) (s : σ) (W : World), w.heap.size ≤ D → X c s W → W.heap[D]? = some (.deferred (some [])) → c.wpIn F n P Q { a with defers := { target := .collected D, args := #[] } :: a.defers } W) :
    (Code.rangeFunc g ps assign body).wpIn F n P Q a w := by
  refine wpIn_rangeFunc ?_
  intro fn hfn
  rw [hro]
  obtain ⟨rec, hrec⟩ : ∃ rec : LoopState → Option Code → Loop, rec = fun st pe => { state := st, pending := pe, fn, tmps := a.tmps, params := ps, assign, body, defers := w.heap.size } := ⟨_, rfl⟩
  obtain ⟨W1, hW1⟩ : ∃ W1, (w.alloc (.deferred (some []))).alloc (.loop (rec .ready none)) = W1 := ⟨_, rfl⟩
  have hL1 : W1.heap[w.heap.size + 1]? = some (.loop (rec .ready none)) := by
    rw [← hW1]; have := World.alloc_heap_new (w.alloc (.deferred (some []))) (.loop (rec .ready none)); rwa [World.size_alloc] at this
  have hK1 : W1.heap[w.heap.size]? = some (.deferred (some [])) := by
    rw [← hW1]; exact (Below.heap_alloc _ _ _ (by simp)).trans (World.alloc_heap_new w _)
  have hI1 : I s0 W1 := by rw [← hW1]; exact hI.alloc _ (hI.alloc _ h0)
  refine ⟨w.heap.size + 1, [{ target := .collected w.heap.size, args := #[] }], W1, { target := .fn (.func gf) lb, args := #[.func (.yield (w.heap.size + 1)) #[] #[]] }, W1, gf,
    #[.func (.yield (w.heap.size + 1)) #[] #[]] ++ lb, W1, ?_, ?_, ?_, ?_, fun _ => h1, ?_⟩
  · rw [← hW1, hrec]; exact run_enterLoop_outer _ _ _ _ _
  · simp only [resolve, hg]
    simp [go_sem]
  · intro f' hf'; simp [Target.leads] at hf'; subst hf'; exact hFg
  · simp [invoke, go_sem, eg]
  · have stp : ∀ {V V' : World} {st : LoopState} {p : Option Code}, StpF w.heap.size V V' → V.heap[w.heap.size + 1]? = some (.loop (rec st p)) → V.heap[w.heap.size]? = some (.deferred (some [])) →
        V'.heap[w.heap.size + 1]? = some (.loop (rec st p)) ∧ V'.heap[w.heap.size]? = some (.deferred (some [])) := fun h h2 h3 =>
      ⟨(h.2 _ (by omega) (Array.getElem?_eq_some_iff.1 h2).1).trans h2, (h.2 _ (Nat.le_refl _) (Array.getElem?_eq_some_iff.1 h3).1).trans h3⟩
    refine (hseq (w.heap.size + 1)
      (fun s W => I s W ∧ W.heap[w.heap.size + 1]? = some (.loop (rec .ready none)) ∧ W.heap[w.heap.size]? = some (.deferred (some [])))
      (fun s args W => M s args W ∧ W.heap[w.heap.size + 1]? = some (.loop (rec .ready none)) ∧ W.heap[w.heap.size]? = some (.deferred (some [])))
      (fun s W => ∃ c, X c s W ∧ W.heap[w.heap.size + 1]? = some (.loop (rec .done (some c))) ∧ W.heap[w.heap.size]? = some (.deferred (some [])))
      W1 (fun s V h => h.1) (fun s V s' args V' h hm ht => ⟨hm, stp ht h.2.1 h.2.2⟩) (fun s V V' h hi ht => ⟨hi, stp ht h.2.1 h.2.2⟩) ?_ ⟨hI1, hL1, hK1⟩).mono ?_
    · rintro s args W ⟨hm, hl, hk⟩
      have hlt : w.heap.size + 1 < W.heap.size := (Array.getElem?_eq_some_iff.1 hl).1
      obtain ⟨hsz, hwp⟩ := hround (w.heap.size + 1) s args W (by omega) hlt ⟨_, hl⟩ hm
      have hy := run_yield (P := P) (args := args) hl (by rw [hrec]; exact hsz)
      rw [hrec] at hy
      refine ⟨fn, _, assign, body, hy, roundIn_of_wpIn hfn (wpIn_mono hwp ?_)⟩
      rintro e a1 Wa hp
      cases e with
      | normal =>
        obtain ⟨hka, hb⟩ := hp
        have hla := hka.same _ _ hl rfl
        refine ⟨_, run_beginRound hla (by rw [hrec]), ?_⟩
        have hlta : w.heap.size + 1 < Wa.heap.size := (Array.getElem?_eq_some_iff.1 hla).1
        have hl2 : (Wa.putObj (w.heap.size + 1) (.loop { rec .ready none with state := .busy })).heap[w.heap.size + 1]? = some (.loop { rec .ready none with state := .busy }) := World.putObj_heap_same hlta
        have hk2 : (Wa.putObj (w.heap.size + 1) (.loop { rec .ready none with state := .busy })).heap[w.heap.size]? = some (.deferred (some [])) := (World.putObj_heap_other (by omega)).trans (hka.same _ _ hk rfl)
        have fin : ∀ (jump : Option Code) (W3 : World), KeepsOthers (Wa.putObj (w.heap.size + 1) (.loop { rec .ready none with state := .busy })) W3 →
            (Instr.endRound (w.heap.size + 1) jump).run P W3 = .ok (.bool jump.isNone) (W3.putObj (w.heap.size + 1) (.loop (rec (if jump.isNone then .ready else .done) jump))) ∧
            W3.heap[w.heap.size + 1]? = some (.loop { rec .ready none with state := .busy }) ∧
            (W3.putObj (w.heap.size + 1) (.loop (rec (if jump.isNone then .ready else .done) jump))).heap[w.heap.size + 1]? = some (.loop (rec (if jump.isNone then .ready else .done) jump)) ∧
            (W3.putObj (w.heap.size + 1) (.loop (rec (if jump.isNone then .ready else .done) jump))).heap[w.heap.size]? = some (.deferred (some [])) := fun jump W3 hk3 => by
          have hl3 := hk3.same _ _ hl2 rfl
          have := run_endRound (P := P) jump hl3
          rw [hrec] at this ⊢
          exact ⟨this, by rw [hrec] at hl3; exact hl3, World.putObj_heap_same (Array.getElem?_eq_some_iff.1 hl3).1, (World.putObj_heap_other (by omega)).trans (hk3.same _ _ hk2 rfl)⟩
        refine wpIn_mono (hb _) ?_
        rintro e a3 W3 hp
        cases e with
        | normal =>
          obtain ⟨hk3, hi3⟩ := hp
          obtain ⟨hr, hl3, hl4, hk4⟩ := fin none W3 hk3
          exact ⟨_, _, hr, .inl ⟨rfl, hI.putObj _ hi3 (by omega) hl3 rfl, hl4, hk4⟩⟩
        | ret =>
          obtain ⟨hk3, hi3⟩ := hp
          obtain ⟨hr, hl3, hl4, hk4⟩ := fin (some .ret) W3 hk3
          exact ⟨_, _, hr, .inr ⟨rfl, .ret, (hX _).putObj _ hi3 (by omega) hl3 rfl, hl4, hk4⟩⟩
        | exit id =>
          obtain ⟨hk3, hi3⟩ := hp
          obtain ⟨hr, hl3, hl4, hk4⟩ := fin (some (.exit id)) W3 hk3
          exact ⟨_, _, hr, .inr ⟨rfl, .exit id, (hX _).putObj _ hi3 (by omega) hl3 rfl, hl4, hk4⟩⟩
        | goto t =>
          obtain ⟨hk3, hi3⟩ := hp
          obtain ⟨hr, hl3, hl4, hk4⟩ := fin (some (.goto t)) W3 hk3
          exact ⟨_, _, hr, .inr ⟨rfl, .goto t, (hX _).putObj _ hi3 (by omega) hl3 rfl, hl4, hk4⟩⟩
        | panic ch => exact hp.elim
        | outgrown => exact hp.elim
      | exit id => exact hp.elim
      | goto t => exact hp.elim
      | ret => exact hp.elim
      | panic ch => exact hp.elim
      | outgrown => exact hp.elim
    · rintro e W2 ⟨⟨v, rfl⟩, (⟨s, hS, hi, hl, hk⟩ | ⟨s, c, hi, hl, hk⟩)⟩
      · exact ⟨none, _, by have := run_endLoop (P := P) hl (by rw [hrec]; simp); rw [hrec] at this; exact this, hdone _ s _ (Nat.le_refl _) hS (hI.putObj _ hi (by omega) hl rfl) ((World.putObj_heap_other (by omega)).trans hk)⟩
      · exact ⟨some c, _, by have := run_endLoop (P := P) hl (by rw [hrec]; simp); rw [hrec] at this; exact this, hstop _ c s _ (Nat.le_refl _) ((hX c).putObj _ hi (by omega) hl rfl) ((World.putObj_heap_other (by omega)).trans hk)⟩
end
end Go.Proofs.YtdboaoejlkkoeaaGreat
namespace Go.Proofs.YtdboaoejlkkoeaaGreat
open Go.RowKit Pl Il Dr
theorem atN_any (c : Nat) (a : Option Addr) (len cap : Nat) (i : Nat) (w : World) (hB : Bytes c w a len cap) (hi : i ≤ 1000) :
    Calls Tryz.prog 34 #[.slice a len cap, .int .i64 i] w fun e w' => ∃ y : Int, e = .returned (.int .i64 y) ∧ 0 ≤ y ∧ y ≤ 255 ∧ w' = w := by
  obtain ⟨hl, _, rfl | ⟨b, off, rfl, _, _, hc⟩⟩ := hB
  · have h0 : ¬ (i : Int) < 0 := by omega
    go_enter Tryz.func34, Tryz.ntmps34
    go_wp2
    go_ret
    exact ⟨_, rfl, by omega, by omega, rfl⟩
  · by_cases h0 : i < len
    · obtain ⟨n, hn, n0, n1⟩ := hc i h0
      have hi0 : (i : Int) < (len : Int) := by omega
      have hi1 : (0 : Int) ≤ (i : Int) := by omega
      clear hc
      go_enter Tryz.func34, Tryz.ntmps34
      go_wp2
      go_ret
      exact ⟨_, rfl, by omega, by omega, rfl⟩
    · have hi0 : ¬ (i : Int) < (len : Int) := by omega
      clear hc
      go_enter Tryz.func34, Tryz.ntmps34
      go_wp2
      go_ret
      exact ⟨_, rfl, by omega, by omega, rfl⟩
theorem bytes_below {c : Nat} {w u : World} {a : Option Addr} {len cap : Nat} (h : Bytes c w a len cap) (hb : Below w.heap.size w u) : Bytes c u a len cap := by
  obtain ⟨hl, hm, h | ⟨b, off, rfl, hlt, hn, hc⟩⟩ := h
  · exact ⟨hl, hm, .inl h⟩
  · exact ⟨hl, hm, .inr ⟨b, off, rfl, Nat.lt_of_lt_of_le hlt hb.size, hn, fun i hi => by rw [hb.cell (p := ⟨b, off + i, none⟩) hlt]; exact hc i hi⟩⟩
end Go.Proofs.YtdboaoejlkkoeaaGreat
namespace Go.Proofs.YtdboaoejlkkoeaaGreat
open Go.ChangeShapes Go.WideShapes Go.ChangeAt Go.RowKit Go.Joins
theorem js1 : (laidOutB Tryz.prog) = true := by kernel_rfl
theorem js2 : (mapsRowed Tryz.prog) = true := by kernel_rfl
theorem js6 : ((Tryz.prog.stops == [])) = true := by kernel_rfl
theorem js8 : ((Tryz.prog.stopKnobs == [])) = true := by kernel_rfl
theorem js22 : ((true == Tryz.prog.plainKeys)) = true := by kernel_rfl
theorem js24 : (Tryz.prog.stopsHeard) = true := by kernel_rfl
theorem js25 : (Tryz.prog.mayEnter) = true := by kernel_rfl
theorem js26 : ((false == Tryz.prog.liftsFinal)) = true := by kernel_rfl
theorem js27 : ((Tryz.prog.make == some Make.cut)) = true := by kernel_rfl
theorem and_all {b0 b1 b2 b3 b4 b5 b6 b7 b8 b9 b10 b11 b12 b13 b14 b15 b16 b17 b18 b19 b20 b21 b22 b23 b24 b25 b26 b27 b28 b29 b30 b31 : Bool} (h0 : b0 = true) (h1 : b1 = true) (h2 : b2 = true) (h3 : b3 = true) (h4 : b4 = true) (h5 : b5 = true) (h6 : b6 = true) (h7 : b7 = true) (h8 : b8 = true) (h9 : b9 = true) (h10 : b10 = true) (h11 : b11 = true) (h12 : b12 = true) (h13 : b13 = true) (h14 : b14 = true) (h15 : b15 = true) (h16 : b16 = true) (h17 : b17 = true) (h18 : b18 = true) (h19 : b19 = true) (h20 : b20 = true) (h21 : b21 = true) (h22 : b22 = true) (h23 : b23 = true) (h24 : b24 = true) (h25 : b25 = true) (h26 : b26 = true) (h27 : b27 = true) (h28 : b28 = true) (h29 : b29 = true) (h30 : b30 = true) (h31 : b31 = true) : (b0 && b1 && b2 && b3 && b4 && b5 && b6 && b7 && b8 && b9 && b10 && b11 && b12 && b13 && b14 && b15 && b16 && b17 && b18 && b19 && b20 && b21 && b22 && b23 && b24 && b25 && b26 && b27 && b28 && b29 && b30 && b31) = true := by
  subst h0 h1 h2 h3 h4 h5 h6 h7 h8 h9 h10 h11 h12 h13 h14 h15 h16 h17 h18 h19 h20 h21 h22 h23 h24 h25 h26 h27 h28 h29 h30 h31
  rfl
end Go.Proofs.YtdboaoejlkkoeaaGreat
