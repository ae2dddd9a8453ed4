/-
  The specification's CallOk.
-/
import Derived.Test.YthbelehhhjngfaaDoorCK1
import Derived.Test.YthbelehhhjngfaaDoorSpF1
import Derived.Deep.Cut
namespace Go.Proofs.YthbelehhhjngfaaDoor
open Go.RowKit Pl Il Tn

set_option maxHeartbeats 4000000 in
theorem blocks_any (o : Int) (w : World) : Calls Tryd.prog 11 #[.int .i64 o] w fun e w' => e = .returned (.bool (fT o)) ∧ w' = w := by
  by_cases h3 : o = 3
  · subst h3
    go_enter Tryd.func11, Tryd.ntmps11
    go_wp2
    go_ret
    exact ⟨rfl, rfl⟩
  have e3 : (o == 3) = false := by simpa using h3
  by_cases h6 : o = 6
  · subst h6
    go_enter Tryd.func11, Tryd.ntmps11
    go_wp2
    go_ret
    exact ⟨rfl, rfl⟩
  have e6 : (o == 6) = false := by simpa using h6
  by_cases h8 : o = 8
  · subst h8
    go_enter Tryd.func11, Tryd.ntmps11
    go_wp2
    go_ret
    exact ⟨rfl, rfl⟩
  have e8 : (o == 8) = false := by simpa using h8
  by_cases h11 : o = 11
  · subst h11
    go_enter Tryd.func11, Tryd.ntmps11
    go_wp2
    go_ret
    exact ⟨rfl, rfl⟩
  have e11 : (o == 11) = false := by simpa using h11
  by_cases h15 : o = 15
  · subst h15
    go_enter Tryd.func11, Tryd.ntmps11
    go_wp2
    go_ret
    exact ⟨rfl, rfl⟩
  have e15 : (o == 15) = false := by simpa using h15
  have HF := hidOf (show fT o = false by simp [fT, h3, h6, h8, h11, h15])
  clear h3 h6 h8 h11 h15
  go_enter Tryd.func11, Tryd.ntmps11
  go_wp2
  go_ret
  exact ⟨rbool HF.out.symm, rfl⟩
/-- What the walk has when both variables are laid. -/
structure SCk (w : World) (x : Cl) (p : Option Addr) (m c : Nat) (xs : List Value) (u : World) : Prop where
  A : BoxL w.heap.size (clC x p m c) u
  X : BoxL (w.heap.size + 1) xs u
  B : Below w.heap.size w u
theorem SCk.keep {w : World} {x : Cl} {p : Option Addr} {m c : Nat} {xs : List Value} {u u' : World} (h : SCk w x p m c xs u) (hb : Below u.heap.size u u') : SCk w x p m c xs u' := ⟨h.A.keep hb, h.X.keep hb, bl_trans h.B hb⟩
theorem SCk.set {w : World} {x : Cl} {p : Option Addr} {m c : Nat} {xs : List Value} {u : World} (h : SCk w x p m c xs u) (i : Nat) (hi : i < xs.length) (v : Value) : SCk w x p m c (xs.set i v) (u.setCell ⟨w.heap.size + 1, i, none⟩ v) := ⟨h.A.far _ i (by omega) v, h.X.set i hi v, bl_setB h.B _ i (by omega) v⟩
theorem SCk.start (w : World) (x : Cl) (p : Option Addr) (m c : Nat) : SCk w x p m c [.int .i64 x.op, .int .i64 x.a, .int .i64 0, .int .i64 (-1), .string ⟨#[]⟩, .int .i64 0, .int .i64 0, .string ⟨#[]⟩, .slice none 0 0] ((w.alloc (.cells #[.int .i64 x.op, .int .i64 x.a, .int .i64 x.b, .int .i64 x.tk, .string x.nm, .int .i64 x.kd, .int .i64 x.nu, .string x.tx, .slice p m c] 32)).alloc (.cells #[.int .i64 x.op, .int .i64 x.a, .int .i64 0, .int .i64 (-1), .string ⟨#[]⟩, .int .i64 0, .int .i64 0, .string ⟨#[]⟩, .slice none 0 0] 32)) := by
  refine ⟨(BoxL.new w (clC x p m c) _).alloc _, ?_, bl_alloc (bl_alloc (Below.refl _ _) _) _⟩
  have h := BoxL.new (w.alloc (.cells #[.int .i64 x.op, .int .i64 x.a, .int .i64 x.b, .int .i64 x.tk, .string x.nm, .int .i64 x.kd, .int .i64 x.nu, .string x.tx, .slice p m c] 32)) [.int .i64 x.op, .int .i64 x.a, .int .i64 0, .int .i64 (-1), .string ⟨#[]⟩, .int .i64 0, .int .i64 0, .string ⟨#[]⟩, .slice none 0 0] 32
  simpa using h
set_option maxRecDepth 100000 in
set_option maxHeartbeats 8000000 in
theorem specCall_rest (x : Cl) (p : Option Addr) (m c : Nat) (w : World) (hI : CIn w x p m) (hm : m ≤ 2097152) (h7 : ¬ x.op = 7) (h19 : ¬ x.op = 19) (h9 : ¬ x.op = 9) (h13 : ¬ x.op = 13) (h14 : ¬ x.op = 14) (h15 : ¬ x.op = 15) (h16 : ¬ x.op = 16) :
    Calls Tryd.prog 5 #[.agg #[.int .i64 x.op, .int .i64 x.a, .int .i64 x.b, .int .i64 x.tk, .string x.nm, .int .i64 x.kd, .int .i64 x.nu, .string x.tx, .slice p m c]] w fun e w' => e = .returned (.bool (okC x)) ∧ Below w.heap.size w w' := by
  have S := SCk.start w x p m c
  obtain ⟨U, hU⟩ : ∃ W, W = (w.alloc (.cells #[.int .i64 x.op, .int .i64 x.a, .int .i64 x.b, .int .i64 x.tk, .string x.nm, .int .i64 x.kd, .int .i64 x.nu, .string x.tx, .slice p m c] 32)).alloc (.cells #[.int .i64 x.op, .int .i64 x.a, .int .i64 0, .int .i64 (-1), .string ⟨#[]⟩, .int .i64 0, .int .i64 0, .string ⟨#[]⟩, .slice none 0 0] 32) := ⟨_, rfl⟩
  rw [← hU] at S
  have HL := hidOf hI.fl.len
  have HX := hidOf hI
  obtain ⟨r, hr⟩ : ∃ r, (x.kd == 0 && (x.nu == 0 && x.tx.toList == ByteArray.toList ⟨#[]⟩)) = r := ⟨_, rfl⟩
  have he := eqlMs x.kd x.nu 0 0 x.tx ⟨#[]⟩ r hr
  have HNo := hidOf (show noMsg x = r by rw [← hr, Bool.eq_iff_iff]; simp [noMsg, ByteArray.toList_eq])
  have hs := eqlMs x.kd x.nu x.kd x.nu x.tx x.tx true (by simp)
  clear hr hI
  obtain ⟨bt, hbt⟩ : ∃ b, fT x.op = b := ⟨_, rfl⟩
  obtain ⟨rr, hrr⟩ : ∃ b, (decide (1 ≤ x.op) && decide (x.op ≤ 19)) = b := ⟨_, rfl⟩
  have HO := hidOf (show okC x = (rr && (decide (x.b = 0) && ((bt || decide (x.tk = -1)) && (decide (x.nm.toList = []) && (noMsg x && decide (x.fl.length = 0))))) && decide (-1 ≤ x.tk)) by
    unfold okC hasC namC
    rw [hbt, hrr]
    cases rr
    · simp
    · simp only [fA, fB, fN, fM, fF, hrr, h7, h19, h9, h13, h14, h15, h16, decide_false, Bool.or_false, Bool.false_or, Bool.not_false, Bool.true_and, if_false, Bool.and_assoc]
      simp)
  have e7 : (x.op == 7) = false := by simpa using h7
  have e19 : (x.op == 19) = false := by simpa using h19
  have e9 : (x.op == 9) = false := by simpa using h9
  have e13 : (x.op == 13) = false := by simpa using h13
  have e14 : (x.op == 14) = false := by simpa using h14
  have e14' : (x.op != 14) = true := by simpa using h14
  have e15 : (x.op == 15) = false := by simpa using h15
  have e16 : (x.op == 16) = false := by simpa using h16
  have HIN := hidOf (fun u => inF_any x.op 1 19 u)
  rw [hrr] at HIN
  clear h7 h19 h9 h13 h14 h15 h16 hrr
  have HBl := hidOf (blocks_any x.op U)
  rw [hbt] at HBl
  clear hbt
  go_enter Tryd.func5, Tryd.ntmps5
  go_upto_region 2 with fail
  rw [← hU]
  clear hU
  obtain ⟨p0, p1, p2, p3, p4, p5, p6, p7, p8⟩ := S.A.c9
  obtain ⟨q0, q1, q2, q3, q4, q5, q6, q7, q8⟩ := S.X.c9
  have xf := S.X.fr
  go_wp2_with fail
  refine (HBl.out).mono ?_
  rintro e w1 ⟨rfl, rfl⟩
  cases bt
  case' true => by_cases ht : -1 ≤ x.tk
  case' pos =>
    have BB := (S.set 3 (by simp) (.int .i64 x.tk)).B
    have ht' : decide (-1 ≤ x.tk) = true := by simpa using ht
  case' neg =>
    have BB := S.B
    have ht' : decide (-1 ≤ x.tk) = false := by simpa using ht
  case' false => have BB := S.B
  all_goals
    clear S
    cases r
    all_goals cases rr
    all_goals go_wp2_with (first | (go_at_call 12; refine (HIN.out _).mono ?_; rintro e w1 ⟨rfl, rfl⟩))
    all_goals go_ret
    all_goals refine ⟨rbool ?_, BB⟩
    all_goals rw [HO.out, HNo.out, HL.out]
    all_goals clear HNo HL HO HX HIN he hs
    all_goals first | (simp_all; done) | (simp_all; omega) | (rw [Bool.eq_iff_iff]; simp_all; done) | (rw [Bool.eq_iff_iff]; simp_all; omega)
set_option maxRecDepth 100000 in
set_option maxHeartbeats 8000000 in
theorem specCall_7 (x : Cl) (p : Option Addr) (m c : Nat) (w : World) (hI : CIn w x p m) (hm : m ≤ 2097152) (hop : x.op = 7) :
    Calls Tryd.prog 5 #[.agg #[.int .i64 x.op, .int .i64 x.a, .int .i64 x.b, .int .i64 x.tk, .string x.nm, .int .i64 x.kd, .int .i64 x.nu, .string x.tx, .slice p m c]] w fun e w' => e = .returned (.bool (okC x)) ∧ Below w.heap.size w w' := by
  have S := SCk.start w x p m c
  obtain ⟨U, hU⟩ : ∃ W, W = (w.alloc (.cells #[.int .i64 x.op, .int .i64 x.a, .int .i64 x.b, .int .i64 x.tk, .string x.nm, .int .i64 x.kd, .int .i64 x.nu, .string x.tx, .slice p m c] 32)).alloc (.cells #[.int .i64 x.op, .int .i64 x.a, .int .i64 0, .int .i64 (-1), .string ⟨#[]⟩, .int .i64 0, .int .i64 0, .string ⟨#[]⟩, .slice none 0 0] 32) := ⟨_, rfl⟩
  rw [← hU] at S
  have HL := hidOf hI.fl.len
  have HX := hidOf hI
  obtain ⟨r, hr⟩ : ∃ r, (x.kd == 0 && (x.nu == 0 && x.tx.toList == ByteArray.toList ⟨#[]⟩)) = r := ⟨_, rfl⟩
  have he := eqlMs x.kd x.nu 0 0 x.tx ⟨#[]⟩ r hr
  have HNo := hidOf (show noMsg x = r by rw [← hr, Bool.eq_iff_iff]; simp [noMsg, ByteArray.toList_eq])
  have hs := eqlMs x.kd x.nu x.kd x.nu x.tx x.tx true (by simp)
  clear hr hI
  have HO := hidOf (show okC x = ((decide (x.tk = -1) && (decide (x.nm.toList = []) && (noMsg x && decide (x.fl.length = 0)))) && decide (-1 ≤ x.tk)) by
    unfold okC hasC namC
    rw [hop]
    simp [fA, fB, fT, fN, fM, fF])
  have HBl := hidOf (blocks_any 7 U)
  rw [show fT 7 = false by rfl] at HBl
  have HIN := hidOf (fun u => inF_any 7 1 19 u)
  have HOp := hidOf hop
  clear hop
  go_enter Tryd.func5, Tryd.ntmps5
  go_upto_region 2 with fail
  rw [← hU]
  clear hU
  obtain ⟨p0, p1, p2, p3, p4, p5, p6, p7, p8⟩ := S.A.c9
  obtain ⟨q0, q1, q2, q3, q4, q5, q6, q7, q8⟩ := S.X.c9
  have xf := S.X.fr
  rw [HOp.out] at p0
  go_wp2_with fail
  refine (HBl.out).mono ?_
  rintro e w1 ⟨rfl, rfl⟩
  have BB := (S.set 2 (by simp) (.int .i64 x.b)).B
  all_goals
    clear S
    cases r
    all_goals go_wp2_with (first | (go_at_call 12; refine (HIN.out _).mono ?_; rintro e w1 ⟨rfl, rfl⟩))
    all_goals go_ret
    all_goals refine ⟨rbool ?_, BB⟩
    all_goals rw [HO.out, HNo.out, HL.out]
    all_goals clear HNo HL HO HX HIN he hs
    all_goals first | (simp_all; done) | (simp_all; omega) | (rw [Bool.eq_iff_iff]; simp_all; done) | (rw [Bool.eq_iff_iff]; simp_all; omega)
set_option maxRecDepth 100000 in
set_option maxHeartbeats 8000000 in
theorem specCall_19 (x : Cl) (p : Option Addr) (m c : Nat) (w : World) (hI : CIn w x p m) (hm : m ≤ 2097152) (hop : x.op = 19) :
    Calls Tryd.prog 5 #[.agg #[.int .i64 x.op, .int .i64 x.a, .int .i64 x.b, .int .i64 x.tk, .string x.nm, .int .i64 x.kd, .int .i64 x.nu, .string x.tx, .slice p m c]] w fun e w' => e = .returned (.bool (okC x)) ∧ Below w.heap.size w w' := by
  have S := SCk.start w x p m c
  obtain ⟨U, hU⟩ : ∃ W, W = (w.alloc (.cells #[.int .i64 x.op, .int .i64 x.a, .int .i64 x.b, .int .i64 x.tk, .string x.nm, .int .i64 x.kd, .int .i64 x.nu, .string x.tx, .slice p m c] 32)).alloc (.cells #[.int .i64 x.op, .int .i64 x.a, .int .i64 0, .int .i64 (-1), .string ⟨#[]⟩, .int .i64 0, .int .i64 0, .string ⟨#[]⟩, .slice none 0 0] 32) := ⟨_, rfl⟩
  rw [← hU] at S
  have HL := hidOf hI.fl.len
  have HX := hidOf hI
  obtain ⟨r, hr⟩ : ∃ r, (x.kd == 0 && (x.nu == 0 && x.tx.toList == ByteArray.toList ⟨#[]⟩)) = r := ⟨_, rfl⟩
  have he := eqlMs x.kd x.nu 0 0 x.tx ⟨#[]⟩ r hr
  have HNo := hidOf (show noMsg x = r by rw [← hr, Bool.eq_iff_iff]; simp [noMsg, ByteArray.toList_eq])
  have hs := eqlMs x.kd x.nu x.kd x.nu x.tx x.tx true (by simp)
  clear hr hI
  have HO := hidOf (show okC x = ((decide (x.tk = -1) && (decide (x.nm.toList = []) && (noMsg x && decide (x.fl.length = 0)))) && decide (-1 ≤ x.tk)) by
    unfold okC hasC namC
    rw [hop]
    simp [fA, fB, fT, fN, fM, fF])
  have HBl := hidOf (blocks_any 19 U)
  rw [show fT 19 = false by rfl] at HBl
  have HIN := hidOf (fun u => inF_any 19 1 19 u)
  have HOp := hidOf hop
  clear hop
  go_enter Tryd.func5, Tryd.ntmps5
  go_upto_region 2 with fail
  rw [← hU]
  clear hU
  obtain ⟨p0, p1, p2, p3, p4, p5, p6, p7, p8⟩ := S.A.c9
  obtain ⟨q0, q1, q2, q3, q4, q5, q6, q7, q8⟩ := S.X.c9
  have xf := S.X.fr
  rw [HOp.out] at p0
  go_wp2_with fail
  refine (HBl.out).mono ?_
  rintro e w1 ⟨rfl, rfl⟩
  have BB := (S.set 2 (by simp) (.int .i64 x.b)).B
  all_goals
    clear S
    cases r
    all_goals go_wp2_with (first | (go_at_call 12; refine (HIN.out _).mono ?_; rintro e w1 ⟨rfl, rfl⟩))
    all_goals go_ret
    all_goals refine ⟨rbool ?_, BB⟩
    all_goals rw [HO.out, HNo.out, HL.out]
    all_goals clear HNo HL HO HX HIN he hs
    all_goals first | (simp_all; done) | (simp_all; omega) | (rw [Bool.eq_iff_iff]; simp_all; done) | (rw [Bool.eq_iff_iff]; simp_all; omega)
set_option maxRecDepth 100000 in
set_option maxHeartbeats 8000000 in
theorem specCall_15 (x : Cl) (p : Option Addr) (m c : Nat) (w : World) (hI : CIn w x p m) (hm : m ≤ 2097152) (hop : x.op = 15) :
    Calls Tryd.prog 5 #[.agg #[.int .i64 x.op, .int .i64 x.a, .int .i64 x.b, .int .i64 x.tk, .string x.nm, .int .i64 x.kd, .int .i64 x.nu, .string x.tx, .slice p m c]] w fun e w' => e = .returned (.bool (okC x)) ∧ Below w.heap.size w w' := by
  have S := SCk.start w x p m c
  obtain ⟨U, hU⟩ : ∃ W, W = (w.alloc (.cells #[.int .i64 x.op, .int .i64 x.a, .int .i64 x.b, .int .i64 x.tk, .string x.nm, .int .i64 x.kd, .int .i64 x.nu, .string x.tx, .slice p m c] 32)).alloc (.cells #[.int .i64 x.op, .int .i64 x.a, .int .i64 0, .int .i64 (-1), .string ⟨#[]⟩, .int .i64 0, .int .i64 0, .string ⟨#[]⟩, .slice none 0 0] 32) := ⟨_, rfl⟩
  rw [← hU] at S
  have HL := hidOf hI.fl.len
  have HX := hidOf hI
  obtain ⟨r, hr⟩ : ∃ r, (x.kd == 0 && (x.nu == 0 && x.tx.toList == ByteArray.toList ⟨#[]⟩)) = r := ⟨_, rfl⟩
  have he := eqlMs x.kd x.nu 0 0 x.tx ⟨#[]⟩ r hr
  have HNo := hidOf (show noMsg x = r by rw [← hr, Bool.eq_iff_iff]; simp [noMsg, ByteArray.toList_eq])
  have hs := eqlMs x.kd x.nu x.kd x.nu x.tx x.tx true (by simp)
  clear hr hI
  have HO := hidOf (show okC x = ((decide (x.a = 0) && (decide (x.nm.toList = []) && (noMsg x && decide (x.fl.length = 0)))) && decide (-1 ≤ x.tk)) by
    unfold okC hasC namC
    rw [hop]
    simp [fA, fB, fT, fN, fM, fF])
  have HBl := hidOf (blocks_any 15 U)
  rw [show fT 15 = true by rfl] at HBl
  have HIN := hidOf (fun u => inF_any 15 1 19 u)
  have HOp := hidOf hop
  clear hop
  go_enter Tryd.func5, Tryd.ntmps5
  go_upto_region 2 with fail
  rw [← hU]
  clear hU
  obtain ⟨p0, p1, p2, p3, p4, p5, p6, p7, p8⟩ := S.A.c9
  obtain ⟨q0, q1, q2, q3, q4, q5, q6, q7, q8⟩ := S.X.c9
  have xf := S.X.fr
  rw [HOp.out] at p0
  go_wp2_with fail
  refine (HBl.out).mono ?_
  rintro e w1 ⟨rfl, rfl⟩
  by_cases ht : -1 ≤ x.tk
  case' pos =>
    have BB := (((S.set 3 (by simp) (.int .i64 x.tk)).set 1 (by simp) (.int .i64 0)).set 2 (by simp) (.int .i64 x.b)).B
    have ht' : decide (-1 ≤ x.tk) = true := by simpa using ht
  case' neg =>
    have BB := ((S.set 1 (by simp) (.int .i64 0)).set 2 (by simp) (.int .i64 x.b)).B
    have ht' : decide (-1 ≤ x.tk) = false := by simpa using ht
  all_goals
    clear S
    cases r
    all_goals go_wp2_with (first | (go_at_call 12; refine (HIN.out _).mono ?_; rintro e w1 ⟨rfl, rfl⟩))
    all_goals go_ret
    all_goals refine ⟨rbool ?_, BB⟩
    all_goals rw [HO.out, HNo.out, HL.out]
    all_goals clear HNo HL HO HX HIN he hs
    all_goals first | (simp_all; done) | (simp_all; omega) | (rw [Bool.eq_iff_iff]; simp_all; done) | (rw [Bool.eq_iff_iff]; simp_all; omega)
set_option maxRecDepth 100000 in
set_option maxHeartbeats 8000000 in
theorem specCall_16 (x : Cl) (p : Option Addr) (m c : Nat) (w : World) (hI : CIn w x p m) (hm : m ≤ 2097152) (hop : x.op = 16) :
    Calls Tryd.prog 5 #[.agg #[.int .i64 x.op, .int .i64 x.a, .int .i64 x.b, .int .i64 x.tk, .string x.nm, .int .i64 x.kd, .int .i64 x.nu, .string x.tx, .slice p m c]] w fun e w' => e = .returned (.bool (okC x)) ∧ Below w.heap.size w w' := by
  have S := SCk.start w x p m c
  obtain ⟨U, hU⟩ : ∃ W, W = (w.alloc (.cells #[.int .i64 x.op, .int .i64 x.a, .int .i64 x.b, .int .i64 x.tk, .string x.nm, .int .i64 x.kd, .int .i64 x.nu, .string x.tx, .slice p m c] 32)).alloc (.cells #[.int .i64 x.op, .int .i64 x.a, .int .i64 0, .int .i64 (-1), .string ⟨#[]⟩, .int .i64 0, .int .i64 0, .string ⟨#[]⟩, .slice none 0 0] 32) := ⟨_, rfl⟩
  rw [← hU] at S
  have HL := hidOf hI.fl.len
  have HX := hidOf hI
  obtain ⟨r, hr⟩ : ∃ r, (x.kd == 0 && (x.nu == 0 && x.tx.toList == ByteArray.toList ⟨#[]⟩)) = r := ⟨_, rfl⟩
  have he := eqlMs x.kd x.nu 0 0 x.tx ⟨#[]⟩ r hr
  have HNo := hidOf (show noMsg x = r by rw [← hr, Bool.eq_iff_iff]; simp [noMsg, ByteArray.toList_eq])
  have hs := eqlMs x.kd x.nu x.kd x.nu x.tx x.tx true (by simp)
  clear hr hI
  have HO := hidOf (show okC x = ((decide (x.a = 0) && (decide (x.tk = -1) && (decide (x.nm.toList = []) && (noMsg x && decide (x.fl.length = 0))))) && decide (-1 ≤ x.tk)) by
    unfold okC hasC namC
    rw [hop]
    simp [fA, fB, fT, fN, fM, fF])
  have HBl := hidOf (blocks_any 16 U)
  rw [show fT 16 = false by rfl] at HBl
  have HIN := hidOf (fun u => inF_any 16 1 19 u)
  have HOp := hidOf hop
  clear hop
  go_enter Tryd.func5, Tryd.ntmps5
  go_upto_region 2 with fail
  rw [← hU]
  clear hU
  obtain ⟨p0, p1, p2, p3, p4, p5, p6, p7, p8⟩ := S.A.c9
  obtain ⟨q0, q1, q2, q3, q4, q5, q6, q7, q8⟩ := S.X.c9
  have xf := S.X.fr
  rw [HOp.out] at p0
  go_wp2_with fail
  refine (HBl.out).mono ?_
  rintro e w1 ⟨rfl, rfl⟩
  have BB := ((S.set 1 (by simp) (.int .i64 0)).set 2 (by simp) (.int .i64 x.b)).B
  all_goals
    clear S
    cases r
    all_goals go_wp2_with (first | (go_at_call 12; refine (HIN.out _).mono ?_; rintro e w1 ⟨rfl, rfl⟩))
    all_goals go_ret
    all_goals refine ⟨rbool ?_, BB⟩
    all_goals rw [HO.out, HNo.out, HL.out]
    all_goals clear HNo HL HO HX HIN he hs
    all_goals first | (simp_all; done) | (simp_all; omega) | (rw [Bool.eq_iff_iff]; simp_all; done) | (rw [Bool.eq_iff_iff]; simp_all; omega)
set_option maxRecDepth 100000 in
set_option maxHeartbeats 8000000 in
theorem specCall_9 (x : Cl) (p : Option Addr) (m c : Nat) (w : World) (hI : CIn w x p m) (hm : m ≤ 2097152) (hop : x.op = 9) :
    Calls Tryd.prog 5 #[.agg #[.int .i64 x.op, .int .i64 x.a, .int .i64 x.b, .int .i64 x.tk, .string x.nm, .int .i64 x.kd, .int .i64 x.nu, .string x.tx, .slice p m c]] w fun e w' => e = .returned (.bool (okC x)) ∧ Below w.heap.size w w' := by
  have S := SCk.start w x p m c
  obtain ⟨U, hU⟩ : ∃ W, W = (w.alloc (.cells #[.int .i64 x.op, .int .i64 x.a, .int .i64 x.b, .int .i64 x.tk, .string x.nm, .int .i64 x.kd, .int .i64 x.nu, .string x.tx, .slice p m c] 32)).alloc (.cells #[.int .i64 x.op, .int .i64 x.a, .int .i64 0, .int .i64 (-1), .string ⟨#[]⟩, .int .i64 0, .int .i64 0, .string ⟨#[]⟩, .slice none 0 0] 32) := ⟨_, rfl⟩
  rw [← hU] at S
  have HL := hidOf hI.fl.len
  have HX := hidOf hI
  obtain ⟨r, hr⟩ : ∃ r, (x.kd == 0 && (x.nu == 0 && x.tx.toList == ByteArray.toList ⟨#[]⟩)) = r := ⟨_, rfl⟩
  have he := eqlMs x.kd x.nu 0 0 x.tx ⟨#[]⟩ r hr
  have HNo := hidOf (show noMsg x = r by rw [← hr, Bool.eq_iff_iff]; simp [noMsg, ByteArray.toList_eq])
  have hs := eqlMs x.kd x.nu x.kd x.nu x.tx x.tx true (by simp)
  clear hr hI
  have HO := hidOf (show okC x = ((decide (x.tk = -1) && (decide (x.nm.toList = []) && decide (x.fl.length = 0))) && (decide (1 ≤ x.b) && (decide (x.b ≤ 4) && okB x.kd x.nu x.tx))) by
    unfold okC hasC namC
    rw [hop]
    simp [fA, fB, fT, fN, fM, fF])
  have HBl := hidOf (blocks_any 9 U)
  rw [show fT 9 = false by rfl] at HBl
  have HIN := hidOf (fun u => inF_any 9 1 19 u)
  have HOp := hidOf hop
  clear hop
  go_enter Tryd.func5, Tryd.ntmps5
  go_upto_region 2 with fail
  rw [← hU]
  clear hU
  obtain ⟨p0, p1, p2, p3, p4, p5, p6, p7, p8⟩ := S.A.c9
  obtain ⟨q0, q1, q2, q3, q4, q5, q6, q7, q8⟩ := S.X.c9
  have xf := S.X.fr
  rw [HOp.out] at p0
  go_wp2_with fail
  refine (HBl.out).mono ?_
  rintro e w1 ⟨rfl, rfl⟩
  obtain ⟨U2, hU2⟩ : ∃ W, W = ((((w1).setCell ⟨w.heap.size + 1, 2, none⟩ (.int .i64 x.b)).setCell ⟨w.heap.size + 1, 5, none⟩ (.int .i64 x.kd)).setCell ⟨w.heap.size + 1, 6, none⟩ (.int .i64 x.nu)).setCell ⟨w.heap.size + 1, 7, none⟩ (.string x.tx) := ⟨_, rfl⟩
  have S2 := ((((S.set 2 (by simp) (.int .i64 x.b)).set 5 (by simp) (.int .i64 x.kd)).set 6 (by simp) (.int .i64 x.nu)).set 7 (by simp) (.string x.tx))
  rw [← hU2] at S2
  have HB4 := hidOf (inF_any x.b 1 4 U2)
  have HM := hidOf (specMsgOk_any x.kd x.nu x.tx U2 HX.out.tx)
  obtain ⟨r4, hr4⟩ : ∃ q, (decide (1 ≤ x.b) && decide (x.b ≤ 4)) = q := ⟨_, rfl⟩
  obtain ⟨mo, hmo⟩ : ∃ q, okB x.kd x.nu x.tx = q := ⟨_, rfl⟩
  rw [hr4] at HB4
  rw [hmo] at HM
  rw [hmo, ← Bool.and_assoc (decide (1 ≤ x.b)), hr4] at HO
  clear hr4 hmo
  go_wp2_with fail
  rw [← hU2]
  clear hU2 hs he
  refine (HB4.out).mono ?_
  rintro e w1 ⟨rfl, rfl⟩
  cases r4
  · have BB := S2.B
    clear S
    have he := 0
    have hs := 0
    go_wp2_with fail
    all_goals go_ret
    all_goals refine ⟨rbool ?_, BB⟩
    all_goals rw [HO.out]
    all_goals (try rw [HNo.out])
    all_goals (try rw [HL.out])
    all_goals clear HNo HL HO HX HIN he hs
    all_goals first | (simp_all; done) | (simp_all; omega) | (rw [Bool.eq_iff_iff]; simp_all; done) | (rw [Bool.eq_iff_iff]; simp_all; omega)
  clear p0 p1 p2 p3 p4 p5 p6 p7 p8 q0 q1 q2 q3 q4 q5 q6 q7 q8 xf S
  have S3 := S2
  obtain ⟨p0, p1, p2, p3, p4, p5, p6, p7, p8⟩ := S3.A.c9
  obtain ⟨q0, q1, q2, q3, q4, q5, q6, q7, q8⟩ := S3.X.c9
  have xf := S3.X.fr
  rw [HOp.out] at p0
  go_wp2_with fail
  refine (HM.out).mono ?_
  rintro e w3 ⟨rfl, b3⟩
  clear p0 p1 p2 p3 p4 p5 p6 p7 p8 q0 q1 q2 q3 q4 q5 q6 q7 q8 xf S3
  have S3 := S2.keep b3
  obtain ⟨p0, p1, p2, p3, p4, p5, p6, p7, p8⟩ := S3.A.c9
  obtain ⟨q0, q1, q2, q3, q4, q5, q6, q7, q8⟩ := S3.X.c9
  have xf := S3.X.fr
  rw [HOp.out] at p0
  have BB := S3.B
  clear S2 S3 b3
  have hs := eqlMs x.kd x.nu x.kd x.nu x.tx x.tx true (by simp)
  have he := 0
  cases mo
  all_goals go_wp2_with (first | (go_at_call 12; refine (HIN.out _).mono ?_; rintro e w1 ⟨rfl, rfl⟩))
  all_goals go_ret
  all_goals refine ⟨rbool ?_, BB⟩
  all_goals rw [HO.out]
  all_goals (try rw [HNo.out])
  all_goals (try rw [HL.out])
  all_goals clear HNo HL HO HX HIN he hs
  all_goals first | (simp_all; done) | (simp_all; omega) | (rw [Bool.eq_iff_iff]; simp_all; done) | (rw [Bool.eq_iff_iff]; simp_all; omega)
set_option maxRecDepth 100000 in
set_option maxHeartbeats 8000000 in
theorem specCall_13 (x : Cl) (p : Option Addr) (m c : Nat) (w : World) (hI : CIn w x p m) (hm : m ≤ 2097152) (hop : x.op = 13) :
    Calls Tryd.prog 5 #[.agg #[.int .i64 x.op, .int .i64 x.a, .int .i64 x.b, .int .i64 x.tk, .string x.nm, .int .i64 x.kd, .int .i64 x.nu, .string x.tx, .slice p m c]] w fun e w' => e = .returned (.bool (okC x)) ∧ Below w.heap.size w w' := by
  have S := SCk.start w x p m c
  obtain ⟨U, hU⟩ : ∃ W, W = (w.alloc (.cells #[.int .i64 x.op, .int .i64 x.a, .int .i64 x.b, .int .i64 x.tk, .string x.nm, .int .i64 x.kd, .int .i64 x.nu, .string x.tx, .slice p m c] 32)).alloc (.cells #[.int .i64 x.op, .int .i64 x.a, .int .i64 0, .int .i64 (-1), .string ⟨#[]⟩, .int .i64 0, .int .i64 0, .string ⟨#[]⟩, .slice none 0 0] 32) := ⟨_, rfl⟩
  rw [← hU] at S
  have HL := hidOf hI.fl.len
  have HX := hidOf hI
  obtain ⟨r, hr⟩ : ∃ r, (x.kd == 0 && (x.nu == 0 && x.tx.toList == ByteArray.toList ⟨#[]⟩)) = r := ⟨_, rfl⟩
  have he := eqlMs x.kd x.nu 0 0 x.tx ⟨#[]⟩ r hr
  have HNo := hidOf (show noMsg x = r by rw [← hr, Bool.eq_iff_iff]; simp [noMsg, ByteArray.toList_eq])
  have hs := eqlMs x.kd x.nu x.kd x.nu x.tx x.tx true (by simp)
  clear hr hI
  have HO := hidOf (show okC x = ((decide (x.a = 0) && (decide (x.b = 0) && (decide (x.tk = -1) && decide (x.fl.length = 0)))) && (rightN true x.nm && okB x.kd x.nu x.tx)) by
    unfold okC hasC namC
    rw [hop]
    simp [fA, fB, fT, fN, fM, fF])
  have HBl := hidOf (blocks_any 13 U)
  rw [show fT 13 = false by rfl] at HBl
  have HIN := hidOf (fun u => inF_any 13 1 19 u)
  have HOp := hidOf hop
  clear hop
  go_enter Tryd.func5, Tryd.ntmps5
  go_upto_region 2 with fail
  rw [← hU]
  clear hU
  obtain ⟨p0, p1, p2, p3, p4, p5, p6, p7, p8⟩ := S.A.c9
  obtain ⟨q0, q1, q2, q3, q4, q5, q6, q7, q8⟩ := S.X.c9
  have xf := S.X.fr
  rw [HOp.out] at p0
  go_wp2_with fail
  refine (HBl.out).mono ?_
  rintro e w1 ⟨rfl, rfl⟩
  obtain ⟨U2, hU2⟩ : ∃ W, W = (((((w1).setCell ⟨w.heap.size + 1, 1, none⟩ (.int .i64 0)).setCell ⟨w.heap.size + 1, 4, none⟩ (.string x.nm)).setCell ⟨w.heap.size + 1, 5, none⟩ (.int .i64 x.kd)).setCell ⟨w.heap.size + 1, 6, none⟩ (.int .i64 x.nu)).setCell ⟨w.heap.size + 1, 7, none⟩ (.string x.tx) := ⟨_, rfl⟩
  have S2 := (((((S.set 1 (by simp) (.int .i64 0)).set 4 (by simp) (.string x.nm)).set 5 (by simp) (.int .i64 x.kd)).set 6 (by simp) (.int .i64 x.nu)).set 7 (by simp) (.string x.tx))
  rw [← hU2] at S2
  have HP := hidOf (specPattern_any x.nm U2 HX.out.nm)
  have HM := hidOf (fun u => specMsgOk_any x.kd x.nu x.tx u HX.out.tx)
  obtain ⟨po, hpo⟩ : ∃ q, rightN true x.nm = q := ⟨_, rfl⟩
  obtain ⟨mo, hmo⟩ : ∃ q, okB x.kd x.nu x.tx = q := ⟨_, rfl⟩
  rw [hpo] at HP
  rw [hmo] at HM
  rw [hmo, hpo] at HO
  clear hpo hmo
  go_wp2_with fail
  rw [← hU2]
  clear hU2 hs he
  refine (HP.out).mono ?_
  rintro e w3 ⟨rfl, b3⟩
  clear p0 p1 p2 p3 p4 p5 p6 p7 p8 q0 q1 q2 q3 q4 q5 q6 q7 q8 xf
  have S3 := S2.keep b3
  clear S S2 b3
  obtain ⟨p0, p1, p2, p3, p4, p5, p6, p7, p8⟩ := S3.A.c9
  obtain ⟨q0, q1, q2, q3, q4, q5, q6, q7, q8⟩ := S3.X.c9
  have xf := S3.X.fr
  rw [HOp.out] at p0
  cases po
  · have BB := S3.B
    clear S3
    have he := 0
    have hs := 0
    go_wp2_with fail
    all_goals go_ret
    all_goals refine ⟨rbool ?_, BB⟩
    all_goals rw [HO.out]
    all_goals (try rw [HNo.out])
    all_goals (try rw [HL.out])
    all_goals clear HNo HL HO HX HIN he hs
    all_goals first | (simp_all; done) | (simp_all; omega) | (rw [Bool.eq_iff_iff]; simp_all; done) | (rw [Bool.eq_iff_iff]; simp_all; omega)
  go_wp2_with fail
  refine (HM.out _).mono ?_
  rintro e w4 ⟨rfl, b4⟩
  clear p0 p1 p2 p3 p4 p5 p6 p7 p8 q0 q1 q2 q3 q4 q5 q6 q7 q8 xf
  have S2 := S3
  clear S3
  have S3 := S2.keep b4
  obtain ⟨p0, p1, p2, p3, p4, p5, p6, p7, p8⟩ := S3.A.c9
  obtain ⟨q0, q1, q2, q3, q4, q5, q6, q7, q8⟩ := S3.X.c9
  have xf := S3.X.fr
  rw [HOp.out] at p0
  have BB := S3.B
  clear S2 S3 b4
  have hs := eqlMs x.kd x.nu x.kd x.nu x.tx x.tx true (by simp)
  have he := 0
  cases mo
  all_goals go_wp2_with (first | (go_at_call 12; refine (HIN.out _).mono ?_; rintro e w1 ⟨rfl, rfl⟩))
  all_goals go_ret
  all_goals refine ⟨rbool ?_, BB⟩
  all_goals rw [HO.out]
  all_goals (try rw [HNo.out])
  all_goals (try rw [HL.out])
  all_goals clear HNo HL HO HX HIN he hs
  all_goals first | (simp_all; done) | (simp_all; omega) | (rw [Bool.eq_iff_iff]; simp_all; done) | (rw [Bool.eq_iff_iff]; simp_all; omega)
set_option maxRecDepth 100000 in
set_option maxHeartbeats 8000000 in
theorem specCall_14 (x : Cl) (p : Option Addr) (m c : Nat) (w : World) (hI : CIn w x p m) (hm : m ≤ 2097152) (hop : x.op = 14) :
    Calls Tryd.prog 5 #[.agg #[.int .i64 x.op, .int .i64 x.a, .int .i64 x.b, .int .i64 x.tk, .string x.nm, .int .i64 x.kd, .int .i64 x.nu, .string x.tx, .slice p m c]] w fun e w' => e = .returned (.bool (okC x)) ∧ Below w.heap.size w w' := by
  have S := SCk.start w x p m c
  obtain ⟨U, hU⟩ : ∃ W, W = (w.alloc (.cells #[.int .i64 x.op, .int .i64 x.a, .int .i64 x.b, .int .i64 x.tk, .string x.nm, .int .i64 x.kd, .int .i64 x.nu, .string x.tx, .slice p m c] 32)).alloc (.cells #[.int .i64 x.op, .int .i64 x.a, .int .i64 0, .int .i64 (-1), .string ⟨#[]⟩, .int .i64 0, .int .i64 0, .string ⟨#[]⟩, .slice none 0 0] 32) := ⟨_, rfl⟩
  rw [← hU] at S
  have HL := hidOf hI.fl.len
  have HX := hidOf hI
  obtain ⟨r, hr⟩ : ∃ r, (x.kd == 0 && (x.nu == 0 && x.tx.toList == ByteArray.toList ⟨#[]⟩)) = r := ⟨_, rfl⟩
  have he := eqlMs x.kd x.nu 0 0 x.tx ⟨#[]⟩ r hr
  have HNo := hidOf (show noMsg x = r by rw [← hr, Bool.eq_iff_iff]; simp [noMsg, ByteArray.toList_eq])
  have hs := eqlMs x.kd x.nu x.kd x.nu x.tx x.tx true (by simp)
  clear hr hI
  have HO := hidOf (show okC x = ((decide (x.tk = -1) && (decide (x.nm.toList = []) && noMsg x)) && ((decide (x.b = 0) || decide (x.b = 1)) && okF x.fl)) by
    unfold okC hasC namC
    rw [hop]
    simp [fA, fB, fT, fN, fM, fF])
  have HBl := hidOf (blocks_any 14 U)
  rw [show fT 14 = false by rfl] at HBl
  have HIN := hidOf (fun u => inF_any 14 1 19 u)
  have HOp := hidOf hop
  clear hop
  go_enter Tryd.func5, Tryd.ntmps5
  go_upto_region 2 with fail
  rw [← hU]
  clear hU
  obtain ⟨p0, p1, p2, p3, p4, p5, p6, p7, p8⟩ := S.A.c9
  obtain ⟨q0, q1, q2, q3, q4, q5, q6, q7, q8⟩ := S.X.c9
  have xf := S.X.fr
  rw [HOp.out] at p0
  go_wp2_with fail
  refine (HBl.out).mono ?_
  rintro e w1 ⟨rfl, rfl⟩
  obtain ⟨U2, hU2⟩ : ∃ W, W = (w1).setCell ⟨w.heap.size + 1, 2, none⟩ (.int .i64 x.b) := ⟨_, rfl⟩
  have S2 := (S.set 2 (by simp) (.int .i64 x.b))
  rw [← hU2] at S2
  have HF := hidOf (specFilterOk_any p m c x.fl U2 (HX.out.keep S2.B).fl (by omega))
  obtain ⟨fo, hfo⟩ : ∃ q, okF x.fl = q := ⟨_, rfl⟩
  rw [hfo] at HF
  rw [hfo] at HO
  clear hfo
  obtain ⟨b, hb⟩ : ∃ b, x.b = b := ⟨_, rfl⟩
  rw [hb] at hU2 S2 HO p2
  go_upto_region 21 with fail
  rw [← hU2]
  clear hU2 p0 p1 p2 p3 p4 p5 p6 p7 p8 q0 q1 q2 q3 q4 q5 q6 q7 q8 xf
  have S3 := S2
  obtain ⟨p0, p1, p2, p3, p4, p5, p6, p7, p8⟩ := S3.A.c9
  obtain ⟨q0, q1, q2, q3, q4, q5, q6, q7, q8⟩ := S3.X.c9
  have xf := S3.X.fr
  rw [HOp.out] at p0
  rw [hb] at p2
  clear S3
  by_cases h0 : b = 0
  case' neg =>
    have h0' : (b != 0) = true := by simpa using h0
    by_cases h1 : b = 1
    case' neg =>
      have h1' : (b != 1) = true := by simpa using h1
      have BB := S2.B
      go_wp2_with fail
      go_ret
      exact ⟨rbool (by rw [HO.out]; simp [h0, h1]), BB⟩
    case' pos => have HBB := hidOf (show (decide (b = 0) || decide (b = 1)) = true by simp [h1])
  case' pos => have HBB := hidOf (show (decide (b = 0) || decide (b = 1)) = true by simp [h0])
  all_goals
    subst b
    rw [HBB.out] at HO
    clear HBB
    go_wp2_with fail
    refine (HF.out).mono ?_
    rintro e w4 ⟨rfl, b4⟩
    clear p0 p1 p2 p3 p4 p5 p6 p7 p8 q0 q1 q2 q3 q4 q5 q6 q7 q8 xf
    have S3 := S2.keep b4
    obtain ⟨p0, p1, p2, p3, p4, p5, p6, p7, p8⟩ := S3.A.c9
    obtain ⟨q0, q1, q2, q3, q4, q5, q6, q7, q8⟩ := S3.X.c9
    have xf := S3.X.fr
    rw [HOp.out] at p0
    have BB := S3.B
    clear S2 S3 b4 S
    cases fo
    all_goals cases r
    all_goals go_wp2_with (first | (go_at_call 12; refine (HIN.out _).mono ?_; rintro e w1 ⟨rfl, rfl⟩))
    all_goals go_ret
    all_goals refine ⟨rbool ?_, BB⟩
    all_goals rw [HO.out]
    all_goals (try rw [HNo.out])
    all_goals (try rw [HL.out])
    all_goals clear HNo HL HO HX HIN he hs
    all_goals first | (simp_all; done) | (simp_all; omega) | (rw [Bool.eq_iff_iff]; simp_all; done) | (rw [Bool.eq_iff_iff]; simp_all; omega)
theorem specCall_any (x : Cl) (p : Option Addr) (m c : Nat) (w : World) (hI : CIn w x p m) (hm : m ≤ 2097152) :
    Calls Tryd.prog 5 #[.agg #[.int .i64 x.op, .int .i64 x.a, .int .i64 x.b, .int .i64 x.tk, .string x.nm, .int .i64 x.kd, .int .i64 x.nu, .string x.tx, .slice p m c]] w fun e w' => e = .returned (.bool (okC x)) ∧ Below w.heap.size w w' := by
  by_cases h7 : x.op = 7
  · exact specCall_7 x p m c w hI hm h7
  by_cases h19 : x.op = 19
  · exact specCall_19 x p m c w hI hm h19
  by_cases h9 : x.op = 9
  · exact specCall_9 x p m c w hI hm h9
  by_cases h13 : x.op = 13
  · exact specCall_13 x p m c w hI hm h13
  by_cases h14 : x.op = 14
  · exact specCall_14 x p m c w hI hm h14
  by_cases h15 : x.op = 15
  · exact specCall_15 x p m c w hI hm h15
  by_cases h16 : x.op = 16
  · exact specCall_16 x p m c w hI hm h16
  exact specCall_rest x p m c w hI hm h7 h19 h9 h13 h14 h15 h16
end Go.Proofs.YthbelehhhjngfaaDoor
