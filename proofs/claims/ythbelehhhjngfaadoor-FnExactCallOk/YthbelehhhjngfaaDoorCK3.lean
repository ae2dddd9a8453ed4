/-
  The program's CallOk: which fields an op names; what a call may have; the whole.
-/
import Derived.Test.YthbelehhhjngfaaDoorCK1
import Derived.Test.YthbelehhhjngfaaDoorBF5
namespace Go.Proofs.YthbelehhhjngfaaDoor
open Go.RowKit Pl Il Tn

def fldV (o : Int) : Value := .agg #[.bool (fA o), .bool (fB o), .bool (fT o), .bool (fN o), .bool (fM o), .bool (fF o)]
set_option maxHeartbeats 4000000 in
theorem fields_any (o : Int) (w : World) (h1 : 1 ≤ o) (h2 : o ≤ 19) : Calls Tryd.prog 19 #[.int .i64 o] w fun e w' => e = .returned (fldV o) ∧ Below w.heap.size w w' := by
  have h : o = 1 ∨ o = 2 ∨ o = 3 ∨ o = 4 ∨ o = 5 ∨ o = 6 ∨ o = 7 ∨ o = 8 ∨ o = 9 ∨ o = 10 ∨ o = 11 ∨ o = 12 ∨ o = 13 ∨ o = 14 ∨ o = 15 ∨ o = 16 ∨ o = 17 ∨ o = 18 ∨ o = 19 := by omega
  clear h1 h2
  rcases h with rfl | rfl | rfl | rfl | rfl | rfl | rfl | rfl | rfl | rfl | rfl | rfl | rfl | rfl | rfl | rfl | rfl | rfl | rfl
  all_goals
    go_enter Tryd.func19, Tryd.ntmps19
    go_wp2
    refine bodyPost_ret (v := fldV _) (by simp [results, Tryd.results19, go_sem, fldV, fA, fB, fT, fN, fM, fF]; done) rfl ⟨rfl, ?_⟩
    repeat (first | exact Below.refl _ _ | apply Below.drew | apply bl_alloc | (refine bl_setB ?_ _ _ (Nat.le_refl _) _))
set_option maxHeartbeats 4000000 in
theorem has_1 (x : Cl) (p : Option Addr) (m c : Nat) (w : World) (hl : x.fl.length = m) : Calls Tryd.prog 18 #[clV x p m c, .agg #[.bool true, .bool false, .bool false, .bool false, .bool false, .bool false]] w fun e w' => e = .returned (.bool (hasC true false false false false false x)) ∧ Below w.heap.size w w' := by
  obtain ⟨op, a, b, tk, nm, kd, nu, tx, fl⟩ := x
  simp only at hl ⊢
  obtain ⟨r, hr⟩ : ∃ r, (kd == 0 && (nu == 0 && tx.toList == ByteArray.toList ⟨#[]⟩)) = r := ⟨_, rfl⟩
  have he := eqlMs kd nu 0 0 tx ⟨#[]⟩ r hr
  have hno : ∀ (op a b tk : Int) (nm : ByteArray) (fl : List Tm), noMsg ⟨op, a, b, tk, nm, kd, nu, tx, fl⟩ = r := fun _ _ _ _ _ _ => by rw [← hr, Bool.eq_iff_iff]; simp [noMsg, ByteArray.toList_eq]
  have HNo := hidOf hno
  have HL := hidOf hl
  clear hr hno hl
  cases r
  all_goals
    go_enter Tryd.func18, Tryd.ntmps18
    go_wp2
    all_goals go_ret
    all_goals refine ⟨rbool ?_, bl_alloc (bl_alloc (Below.refl _ _) _) _⟩
    all_goals have hn := HNo.out
    all_goals have hL := HL.out
    all_goals clear HNo HL he
    all_goals first | (simp_all [hasC]; done) | (simp_all [hasC]; rw [Bool.eq_iff_iff]; simp; done) | (simp_all [hasC]; rw [Bool.eq_iff_iff]; simp; omega)
set_option maxHeartbeats 4000000 in
theorem has_3 (x : Cl) (p : Option Addr) (m c : Nat) (w : World) (hl : x.fl.length = m) : Calls Tryd.prog 18 #[clV x p m c, .agg #[.bool true, .bool false, .bool true, .bool false, .bool false, .bool false]] w fun e w' => e = .returned (.bool (hasC true false true false false false x)) ∧ Below w.heap.size w w' := by
  obtain ⟨op, a, b, tk, nm, kd, nu, tx, fl⟩ := x
  simp only at hl ⊢
  obtain ⟨r, hr⟩ : ∃ r, (kd == 0 && (nu == 0 && tx.toList == ByteArray.toList ⟨#[]⟩)) = r := ⟨_, rfl⟩
  have he := eqlMs kd nu 0 0 tx ⟨#[]⟩ r hr
  have hno : ∀ (op a b tk : Int) (nm : ByteArray) (fl : List Tm), noMsg ⟨op, a, b, tk, nm, kd, nu, tx, fl⟩ = r := fun _ _ _ _ _ _ => by rw [← hr, Bool.eq_iff_iff]; simp [noMsg, ByteArray.toList_eq]
  have HNo := hidOf hno
  have HL := hidOf hl
  clear hr hno hl
  cases r
  all_goals
    go_enter Tryd.func18, Tryd.ntmps18
    go_wp2
    all_goals go_ret
    all_goals refine ⟨rbool ?_, bl_alloc (bl_alloc (Below.refl _ _) _) _⟩
    all_goals have hn := HNo.out
    all_goals have hL := HL.out
    all_goals clear HNo HL he
    all_goals first | (simp_all [hasC]; done) | (simp_all [hasC]; rw [Bool.eq_iff_iff]; simp; done) | (simp_all [hasC]; rw [Bool.eq_iff_iff]; simp; omega)
set_option maxHeartbeats 4000000 in
theorem has_7 (x : Cl) (p : Option Addr) (m c : Nat) (w : World) (hl : x.fl.length = m) : Calls Tryd.prog 18 #[clV x p m c, .agg #[.bool true, .bool true, .bool false, .bool false, .bool false, .bool false]] w fun e w' => e = .returned (.bool (hasC true true false false false false x)) ∧ Below w.heap.size w w' := by
  obtain ⟨op, a, b, tk, nm, kd, nu, tx, fl⟩ := x
  simp only at hl ⊢
  obtain ⟨r, hr⟩ : ∃ r, (kd == 0 && (nu == 0 && tx.toList == ByteArray.toList ⟨#[]⟩)) = r := ⟨_, rfl⟩
  have he := eqlMs kd nu 0 0 tx ⟨#[]⟩ r hr
  have hno : ∀ (op a b tk : Int) (nm : ByteArray) (fl : List Tm), noMsg ⟨op, a, b, tk, nm, kd, nu, tx, fl⟩ = r := fun _ _ _ _ _ _ => by rw [← hr, Bool.eq_iff_iff]; simp [noMsg, ByteArray.toList_eq]
  have HNo := hidOf hno
  have HL := hidOf hl
  clear hr hno hl
  cases r
  all_goals
    go_enter Tryd.func18, Tryd.ntmps18
    go_wp2
    all_goals go_ret
    all_goals refine ⟨rbool ?_, bl_alloc (bl_alloc (Below.refl _ _) _) _⟩
    all_goals have hn := HNo.out
    all_goals have hL := HL.out
    all_goals clear HNo HL he
    all_goals first | (simp_all [hasC]; done) | (simp_all [hasC]; rw [Bool.eq_iff_iff]; simp; done) | (simp_all [hasC]; rw [Bool.eq_iff_iff]; simp; omega)
set_option maxHeartbeats 4000000 in
theorem has_9 (x : Cl) (p : Option Addr) (m c : Nat) (w : World) (hl : x.fl.length = m) : Calls Tryd.prog 18 #[clV x p m c, .agg #[.bool true, .bool true, .bool false, .bool false, .bool true, .bool false]] w fun e w' => e = .returned (.bool (hasC true true false false true false x)) ∧ Below w.heap.size w w' := by
  obtain ⟨op, a, b, tk, nm, kd, nu, tx, fl⟩ := x
  simp only at hl ⊢
  obtain ⟨r, hr⟩ : ∃ r, (kd == 0 && (nu == 0 && tx.toList == ByteArray.toList ⟨#[]⟩)) = r := ⟨_, rfl⟩
  have he := eqlMs kd nu 0 0 tx ⟨#[]⟩ r hr
  have hno : ∀ (op a b tk : Int) (nm : ByteArray) (fl : List Tm), noMsg ⟨op, a, b, tk, nm, kd, nu, tx, fl⟩ = r := fun _ _ _ _ _ _ => by rw [← hr, Bool.eq_iff_iff]; simp [noMsg, ByteArray.toList_eq]
  have HNo := hidOf hno
  have HL := hidOf hl
  clear hr hno hl
  cases r
  all_goals
    go_enter Tryd.func18, Tryd.ntmps18
    go_wp2
    all_goals go_ret
    all_goals refine ⟨rbool ?_, bl_alloc (bl_alloc (Below.refl _ _) _) _⟩
    all_goals have hn := HNo.out
    all_goals have hL := HL.out
    all_goals clear HNo HL he
    all_goals first | (simp_all [hasC]; done) | (simp_all [hasC]; rw [Bool.eq_iff_iff]; simp; done) | (simp_all [hasC]; rw [Bool.eq_iff_iff]; simp; omega)
set_option maxHeartbeats 4000000 in
theorem has_13 (x : Cl) (p : Option Addr) (m c : Nat) (w : World) (hl : x.fl.length = m) : Calls Tryd.prog 18 #[clV x p m c, .agg #[.bool false, .bool false, .bool false, .bool true, .bool true, .bool false]] w fun e w' => e = .returned (.bool (hasC false false false true true false x)) ∧ Below w.heap.size w w' := by
  obtain ⟨op, a, b, tk, nm, kd, nu, tx, fl⟩ := x
  simp only at hl ⊢
  obtain ⟨r, hr⟩ : ∃ r, (kd == 0 && (nu == 0 && tx.toList == ByteArray.toList ⟨#[]⟩)) = r := ⟨_, rfl⟩
  have he := eqlMs kd nu 0 0 tx ⟨#[]⟩ r hr
  have hno : ∀ (op a b tk : Int) (nm : ByteArray) (fl : List Tm), noMsg ⟨op, a, b, tk, nm, kd, nu, tx, fl⟩ = r := fun _ _ _ _ _ _ => by rw [← hr, Bool.eq_iff_iff]; simp [noMsg, ByteArray.toList_eq]
  have HNo := hidOf hno
  have HL := hidOf hl
  clear hr hno hl
  cases r
  all_goals
    go_enter Tryd.func18, Tryd.ntmps18
    go_wp2
    all_goals go_ret
    all_goals refine ⟨rbool ?_, bl_alloc (bl_alloc (Below.refl _ _) _) _⟩
    all_goals have hn := HNo.out
    all_goals have hL := HL.out
    all_goals clear HNo HL he
    all_goals first | (simp_all [hasC]; done) | (simp_all [hasC]; rw [Bool.eq_iff_iff]; simp; done) | (simp_all [hasC]; rw [Bool.eq_iff_iff]; simp; omega)
set_option maxHeartbeats 4000000 in
theorem has_14 (x : Cl) (p : Option Addr) (m c : Nat) (w : World) (hl : x.fl.length = m) : Calls Tryd.prog 18 #[clV x p m c, .agg #[.bool true, .bool true, .bool false, .bool false, .bool false, .bool true]] w fun e w' => e = .returned (.bool (hasC true true false false false true x)) ∧ Below w.heap.size w w' := by
  obtain ⟨op, a, b, tk, nm, kd, nu, tx, fl⟩ := x
  simp only at hl ⊢
  obtain ⟨r, hr⟩ : ∃ r, (kd == 0 && (nu == 0 && tx.toList == ByteArray.toList ⟨#[]⟩)) = r := ⟨_, rfl⟩
  have he := eqlMs kd nu 0 0 tx ⟨#[]⟩ r hr
  have hno : ∀ (op a b tk : Int) (nm : ByteArray) (fl : List Tm), noMsg ⟨op, a, b, tk, nm, kd, nu, tx, fl⟩ = r := fun _ _ _ _ _ _ => by rw [← hr, Bool.eq_iff_iff]; simp [noMsg, ByteArray.toList_eq]
  have HNo := hidOf hno
  have HL := hidOf hl
  clear hr hno hl
  cases r
  all_goals
    go_enter Tryd.func18, Tryd.ntmps18
    go_wp2
    all_goals go_ret
    all_goals refine ⟨rbool ?_, bl_alloc (bl_alloc (Below.refl _ _) _) _⟩
    all_goals have hn := HNo.out
    all_goals have hL := HL.out
    all_goals clear HNo HL he
    all_goals first | (simp_all [hasC]; done) | (simp_all [hasC]; rw [Bool.eq_iff_iff]; simp; done) | (simp_all [hasC]; rw [Bool.eq_iff_iff]; simp; omega)
set_option maxHeartbeats 4000000 in
theorem has_15 (x : Cl) (p : Option Addr) (m c : Nat) (w : World) (hl : x.fl.length = m) : Calls Tryd.prog 18 #[clV x p m c, .agg #[.bool false, .bool true, .bool true, .bool false, .bool false, .bool false]] w fun e w' => e = .returned (.bool (hasC false true true false false false x)) ∧ Below w.heap.size w w' := by
  obtain ⟨op, a, b, tk, nm, kd, nu, tx, fl⟩ := x
  simp only at hl ⊢
  obtain ⟨r, hr⟩ : ∃ r, (kd == 0 && (nu == 0 && tx.toList == ByteArray.toList ⟨#[]⟩)) = r := ⟨_, rfl⟩
  have he := eqlMs kd nu 0 0 tx ⟨#[]⟩ r hr
  have hno : ∀ (op a b tk : Int) (nm : ByteArray) (fl : List Tm), noMsg ⟨op, a, b, tk, nm, kd, nu, tx, fl⟩ = r := fun _ _ _ _ _ _ => by rw [← hr, Bool.eq_iff_iff]; simp [noMsg, ByteArray.toList_eq]
  have HNo := hidOf hno
  have HL := hidOf hl
  clear hr hno hl
  cases r
  all_goals
    go_enter Tryd.func18, Tryd.ntmps18
    go_wp2
    all_goals go_ret
    all_goals refine ⟨rbool ?_, bl_alloc (bl_alloc (Below.refl _ _) _) _⟩
    all_goals have hn := HNo.out
    all_goals have hL := HL.out
    all_goals clear HNo HL he
    all_goals first | (simp_all [hasC]; done) | (simp_all [hasC]; rw [Bool.eq_iff_iff]; simp; done) | (simp_all [hasC]; rw [Bool.eq_iff_iff]; simp; omega)
set_option maxHeartbeats 4000000 in
theorem has_16 (x : Cl) (p : Option Addr) (m c : Nat) (w : World) (hl : x.fl.length = m) : Calls Tryd.prog 18 #[clV x p m c, .agg #[.bool false, .bool true, .bool false, .bool false, .bool false, .bool false]] w fun e w' => e = .returned (.bool (hasC false true false false false false x)) ∧ Below w.heap.size w w' := by
  obtain ⟨op, a, b, tk, nm, kd, nu, tx, fl⟩ := x
  simp only at hl ⊢
  obtain ⟨r, hr⟩ : ∃ r, (kd == 0 && (nu == 0 && tx.toList == ByteArray.toList ⟨#[]⟩)) = r := ⟨_, rfl⟩
  have he := eqlMs kd nu 0 0 tx ⟨#[]⟩ r hr
  have hno : ∀ (op a b tk : Int) (nm : ByteArray) (fl : List Tm), noMsg ⟨op, a, b, tk, nm, kd, nu, tx, fl⟩ = r := fun _ _ _ _ _ _ => by rw [← hr, Bool.eq_iff_iff]; simp [noMsg, ByteArray.toList_eq]
  have HNo := hidOf hno
  have HL := hidOf hl
  clear hr hno hl
  cases r
  all_goals
    go_enter Tryd.func18, Tryd.ntmps18
    go_wp2
    all_goals go_ret
    all_goals refine ⟨rbool ?_, bl_alloc (bl_alloc (Below.refl _ _) _) _⟩
    all_goals have hn := HNo.out
    all_goals have hL := HL.out
    all_goals clear HNo HL he
    all_goals first | (simp_all [hasC]; done) | (simp_all [hasC]; rw [Bool.eq_iff_iff]; simp; done) | (simp_all [hasC]; rw [Bool.eq_iff_iff]; simp; omega)
end Go.Proofs.YthbelehhhjngfaaDoor
