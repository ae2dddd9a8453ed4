/-
  Walks: a word of a filter's text, as the program reads it.
-/
import Derived.Test.YtljecghkechcaaaGreatDoorTYo
import Derived.Test.YtljecghkechcaaaGreatDoorTYs
import Derived.Test.YtljecghkechcaaaGreatDoorG3
namespace Go.Proofs.YtljecghkechcaaaGreatDoor
open Go.RowKit Pl Il Nu

theorem rdT_else {c : UInt8} {t : ByteArray} (h1 : ¬ (c = 60 ∨ c = 37)) (h2 : ¬ (c = 94 ∨ c = 126)) : rdT (put1 c t) = (((opT (put1 c t) : Int), 0, noB), true) := by
  have hs : 0 < (put1 c t).size := by rw [put1_size]; omega
  unfold rdT
  rw [dif_pos hs, put1_at c t hs, if_neg h1, if_neg h2]
theorem rdT_nil : rdT noB = ((0, 0, noB), false) := by
  unfold rdT
  rw [dif_neg (by decide)]
theorem isC (c : UInt8) (n : Nat) (hn : n < 256) (h : c = UInt8.ofNat n) : ((c.toNat : Int) == (n : Int)) = true := by
  subst h
  have : (UInt8.ofNat n).toNat = n := by simp; omega
  rw [this]; simp
theorem noC (c : UInt8) (n : Nat) (hn : n < 256) (h : ¬ c = UInt8.ofNat n) : ((c.toNat : Int) == (n : Int)) = false := by
  rw [beq_eq_false_iff_ne]
  intro e
  apply h
  apply UInt8.toNat_inj.1
  have : (UInt8.ofNat n).toNat = n := by simp; omega
  rw [this]; omega
theorem Pl.Box3.set0x {N : Nat} {v0 v1 v2 : Value} {w : World} (h : Box3 N v0 v1 v2 w) (y : Value) : Box3 N y v1 v2 (w.setCell ⟨N, 0, none⟩ y) :=
  ⟨by simpa using h.lt, World.cell?_setCell_same _ _ _ h.c0, by rw [World.cell?_setCell_other _ _ _ _ (by simp)]; exact h.c1, by rw [World.cell?_setCell_other _ _ _ _ (by simp)]; exact h.c2, fun k => by simpa using h.fr k⟩
theorem Pl.Box3.set1x {N : Nat} {v0 v1 v2 : Value} {w : World} (h : Box3 N v0 v1 v2 w) (y : Value) : Box3 N v0 y v2 (w.setCell ⟨N, 1, none⟩ y) :=
  ⟨by simpa using h.lt, by rw [World.cell?_setCell_other _ _ _ _ (by simp)]; exact h.c0, World.cell?_setCell_same _ _ _ h.c1, by rw [World.cell?_setCell_other _ _ _ _ (by simp)]; exact h.c2, fun k => by simpa using h.fr k⟩
theorem Pl.Box3.set2x {N : Nat} {v0 v1 v2 : Value} {w : World} (h : Box3 N v0 v1 v2 w) (y : Value) : Box3 N v0 v1 y (w.setCell ⟨N, 2, none⟩ y) :=
  ⟨by simpa using h.lt, by rw [World.cell?_setCell_other _ _ _ _ (by simp)]; exact h.c0, by rw [World.cell?_setCell_other _ _ _ _ (by simp)]; exact h.c1, World.cell?_setCell_same _ _ _ h.c2, fun k => by simpa using h.fr k⟩
theorem Pl.Box3.farx {N M o : Nat} {v0 v1 v2 : Value} {w : World} (h : Box3 N v0 v1 v2 w) (y : Value) (hn : M ≠ N) : Box3 N v0 v1 v2 (w.setCell ⟨M, o, none⟩ y) :=
  ⟨by simpa using h.lt, by rw [World.cell?_setCell_other _ _ _ _ (by intro e; cases e; exact hn rfl)]; exact h.c0, by rw [World.cell?_setCell_other _ _ _ _ (by intro e; cases e; exact hn rfl)]; exact h.c1, by rw [World.cell?_setCell_other _ _ _ _ (by intro e; cases e; exact hn rfl)]; exact h.c2, fun k => by simpa using h.fr k⟩

theorem two_box (w : World) (v0 v1 v2 : Value) (t : TypeId) : Box3 w.heap.size (.int .i64 0) (.int .i64 0) (.string ⟨#[]⟩) ((w.alloc (.cells #[.int .i64 0, .int .i64 0, .string ⟨#[]⟩] t)).alloc (.cells #[v0, v1, v2] t)) ∧ Box3 (w.heap.size + 1) v0 v1 v2 ((w.alloc (.cells #[.int .i64 0, .int .i64 0, .string ⟨#[]⟩] t)).alloc (.cells #[v0, v1, v2] t)) ∧ Below w.heap.size w ((w.alloc (.cells #[.int .i64 0, .int .i64 0, .string ⟨#[]⟩] t)).alloc (.cells #[v0, v1, v2] t)) := by
  refine ⟨(Box3.new w _ _ _ _).alloc _, ?_, bl_alloc (bl_alloc (Below.refl _ _) _) _⟩
  have h := Box3.new (w.alloc (.cells #[.int .i64 0, .int .i64 0, .string ⟨#[]⟩] t)) v0 v1 v2 t
  rw [World.size_alloc] at h
  exact h

set_option maxRecDepth 100000 in
set_option maxHeartbeats 4000000 in
theorem readTerm_any (s : ByteArray) (w : World) (hL : LaidT w) (hN : Laid w) (hs : s.size ≤ 1048576) :
    Calls Tryz.prog 21 #[.string s] w fun e w' => e = .returned (rdV (rdT s)) ∧ Below w.heap.size w w' := by
  obtain ⟨W, hW⟩ : ∃ W, (w.alloc (.cells #[.int .i64 0, .int .i64 0, .string ⟨#[]⟩] 38)).alloc (.cells #[.int .i64 0, .int .i64 0, .string ⟨#[]⟩] 38) = W := ⟨_, rfl⟩
  have KR := hidOf (show Box3 w.heap.size (.int .i64 0) (.int .i64 0) (.string ⟨#[]⟩) W by rw [← hW]; exact (Box3.new w _ _ _ _).alloc _)
  have KX := hidOf (show Box3 (w.heap.size + 1) (.int .i64 0) (.int .i64 0) (.string ⟨#[]⟩) W by
    rw [← hW]
    have h := Box3.new (w.alloc (.cells #[.int .i64 0, .int .i64 0, .string ⟨#[]⟩] 38)) (.int .i64 0) (.int .i64 0) (.string ⟨#[]⟩) 38
    rw [World.size_alloc] at h
    exact h)
  have BW := hidOf (show Below w.heap.size w W by rw [← hW]; exact bl_alloc (bl_alloc (Below.refl _ _) _) _)
  have HWq := hidOf hW
  clear hW
  have HL := hidOf hL
  have HN := hidOf hN
  by_cases h0 : 0 < s.size
  case neg =>
    have he : s = noB := baE (by
      have : s.data.toList.length = 0 := by rw [← size_list]; omega
      rw [List.length_eq_zero_iff.1 this]; rfl)
    subst he
    have e2 : (noB.toList == []) = true := by unfold noB; rw [ByteArray.toList_eq]; rfl
    have HT := hidOf rdT_nil
    obtain ⟨_, x0, x1, x2, fr⟩ := Box3.new w (.int .i64 0) (.int .i64 0) (.string ⟨#[]⟩) 38
    clear hs h0 HWq hL hN KR KX BW HL HN
    unfold noB at *
    go_enter Tryz.func21, Tryz.ntmps21
    go_wp2_with fail
    refine bodyPost_ret (v := .tuple #[.agg #[.int .i64 0, .int .i64 0, .string ⟨#[]⟩], .bool false]) (by simp [results, Tryz.results21, go_sem, x0, x1, x2]) rfl ⟨rdV_of (r := rdT ⟨#[]⟩) (q := ((0, 0, ⟨#[]⟩), false)) HT.out, ?_⟩
    first | exact bl_alloc (Below.refl _ _) _ | exact bl_set3 (bl_alloc (Below.refl _ _) _) _ (Nat.le_refl _) _ _ _
  have hp := put1_of h0
  have hx := put1_tail s[0] (s.extract 1 s.size)
  rw [← hp] at hx
  obtain ⟨c, hc⟩ : ∃ c, s[0] = c := ⟨_, rfl⟩
  obtain ⟨r, hr⟩ : ∃ r, s.extract 1 s.size = r := ⟨_, rfl⟩
  rw [hc, hr] at hp
  have hrs : r.size ≤ 1048576 := by rw [← hr, ByteArray.size_extract]; omega
  have h01 : s.extract 0 1 = ⟨#[c]⟩ := by rw [hp]; exact put1_head c r
  have HP := hidOf hp
  have hne : (s.toList == []) = false := by
    cases hh : (s.toList == [])
    · rfl
    · exfalso
      have := beq_iff_eq.1 hh
      rw [ByteArray.toList_eq] at this
      have := congrArg List.length this
      rw [← size_list] at this
      simp only [List.length_nil] at this
      omega
  have h1 : 1 ≤ s.size := h0
  have HO := hidOf (fun (x : ByteArray) u (hu : LaidT u) => opOf_any x u hu)
  have HRn := hidOf (fun u (hu : Laid u) => readNumber_any r u hu hrs)
  have HWN := hidOf (show w.heap.size + 1 ≠ w.heap.size by omega)
  have HWN' := hidOf (show w.heap.size ≤ w.heap.size + 1 by omega)
  clear hp hx hL hN
  by_cases k60 : c = 60
  · have f60 : ((c.toNat : Int) == 60) = true := by rw [k60]; decide
    have HT := hidOf (rdT_num (t := r) (.inl k60))
    rw [k60] at HT HP h01
    clear k60
    go_enter Tryz.func21, Tryz.ntmps21
    go_wp2_with fail
    rw [HWq.out]
    clear HWq
    generalize hNX : w.heap.size + 1 = NX at KX HWN HWN' ⊢
    have HNx := HWN'
    have hxr : NX ≠ w.heap.size := HWN.out
    have hrx : w.heap.size ≠ NX := fun e => hxr e.symm
    clear hNX
    refine (HRn.out W (HN.out.keep BW.out)).mono ?_
    rintro e w2 ⟨rfl, hb2⟩
    rw [numV_eq]
    obtain ⟨nn, hnn⟩ : ∃ n, numT r = n := ⟨_, rfl⟩
    obtain ⟨ok, hok⟩ : ∃ n, numOk r = n := ⟨_, rfl⟩
    rw [hnn, hok] at HT ⊢
    have KX2 := hidOf (KX.out.keep hb2)
    have KR2 := hidOf (KR.out.keep hb2)
    have B2 := hidOf (bl_trans BW.out hb2)
    clear hb2 KX KR BW hnn hok HRn hrs
    obtain ⟨_, y0, y1, y2, fy⟩ := KX2.out
    go_wp2_with fail
    obtain ⟨V, hV⟩ : ∃ V, (w2.setCell ⟨NX, 1, none⟩ (.int .i64 nn)).setCell ⟨NX, 2, none⟩ (.string ⟨#[]⟩) = V := ⟨_, rfl⟩
    rw [hV]
    have KXv := hidOf (show Box3 NX (.int .i64 0) (.int .i64 nn) (.string ⟨#[]⟩) V by rw [← hV]; exact (KX2.out.set1x _).set2x _)
    have KRv := hidOf (show Box3 w.heap.size (.int .i64 0) (.int .i64 0) (.string ⟨#[]⟩) V by rw [← hV]; exact (KR2.out.farx _ hxr).farx _ hxr)
    have Bv := hidOf (show Below w.heap.size w V by rw [← hV]; exact Below.setCell (Below.setCell B2.out (p := ⟨NX, 1, none⟩) HNx.out _) (p := ⟨NX, 2, none⟩) HNx.out _)
    clear hV KX2 KR2 B2 y0 y1 y2 fy
    refine (HO.out ⟨#[60]⟩ V (HL.out.keep Bv.out)).mono ?_
    rintro e w3 ⟨rfl, hb3⟩
    obtain ⟨oo, hoo⟩ : ∃ n : Int, (opT ⟨#[60]⟩ : Int) = n := ⟨_, rfl⟩
    rw [hoo] at HT ⊢
    have hB := hidOf (bl_trans Bv.out hb3)
    obtain ⟨_, y0, y1, y2, fy⟩ := KXv.out.keep hb3
    obtain ⟨_, x0, x1, x2, fr⟩ := KRv.out.keep hb3
    clear hb3 KXv KRv Bv hoo HO
    go_wp2
    refine bodyPost_ret (v := .tuple #[.agg #[.int .i64 oo, .int .i64 nn, .string ⟨#[]⟩], .bool ok]) (by simp [results, Tryz.results21, go_sem, x0, x1, x2]) rfl ⟨rdV_of (r := rdT s) (q := ((oo, nn, ⟨#[]⟩), ok)) (by rw [HP.out]; exact HT.out), ?_⟩
    exact bl_set3 (Below.setCell hB.out (p := ⟨NX, 0, none⟩) HNx.out _) _ (Nat.le_refl _) _ _ _
  have f60 : ((c.toNat : Int) == 60) = false := noC c 60 (by decide) k60
  by_cases k37 : c = 37
  · have f37 : ((c.toNat : Int) == 37) = true := by rw [k37]; decide
    have HT := hidOf (rdT_num (t := r) (.inr k37))
    rw [k37] at HT HP h01
    clear k37
    go_enter Tryz.func21, Tryz.ntmps21
    go_wp2_with fail
    rw [HWq.out]
    clear HWq
    generalize hNX : w.heap.size + 1 = NX at KX HWN HWN' ⊢
    have HNx := HWN'
    have hxr : NX ≠ w.heap.size := HWN.out
    have hrx : w.heap.size ≠ NX := fun e => hxr e.symm
    clear hNX
    refine (HRn.out W (HN.out.keep BW.out)).mono ?_
    rintro e w2 ⟨rfl, hb2⟩
    rw [numV_eq]
    obtain ⟨nn, hnn⟩ : ∃ n, numT r = n := ⟨_, rfl⟩
    obtain ⟨ok, hok⟩ : ∃ n, numOk r = n := ⟨_, rfl⟩
    rw [hnn, hok] at HT ⊢
    have KX2 := hidOf (KX.out.keep hb2)
    have KR2 := hidOf (KR.out.keep hb2)
    have B2 := hidOf (bl_trans BW.out hb2)
    clear hb2 KX KR BW hnn hok HRn hrs
    obtain ⟨_, y0, y1, y2, fy⟩ := KX2.out
    go_wp2_with fail
    obtain ⟨V, hV⟩ : ∃ V, (w2.setCell ⟨NX, 1, none⟩ (.int .i64 nn)).setCell ⟨NX, 2, none⟩ (.string ⟨#[]⟩) = V := ⟨_, rfl⟩
    rw [hV]
    have KXv := hidOf (show Box3 NX (.int .i64 0) (.int .i64 nn) (.string ⟨#[]⟩) V by rw [← hV]; exact (KX2.out.set1x _).set2x _)
    have KRv := hidOf (show Box3 w.heap.size (.int .i64 0) (.int .i64 0) (.string ⟨#[]⟩) V by rw [← hV]; exact (KR2.out.farx _ hxr).farx _ hxr)
    have Bv := hidOf (show Below w.heap.size w V by rw [← hV]; exact Below.setCell (Below.setCell B2.out (p := ⟨NX, 1, none⟩) HNx.out _) (p := ⟨NX, 2, none⟩) HNx.out _)
    clear hV KX2 KR2 B2 y0 y1 y2 fy
    refine (HO.out ⟨#[37]⟩ V (HL.out.keep Bv.out)).mono ?_
    rintro e w3 ⟨rfl, hb3⟩
    obtain ⟨oo, hoo⟩ : ∃ n : Int, (opT ⟨#[37]⟩ : Int) = n := ⟨_, rfl⟩
    rw [hoo] at HT ⊢
    have hB := hidOf (bl_trans Bv.out hb3)
    obtain ⟨_, y0, y1, y2, fy⟩ := KXv.out.keep hb3
    obtain ⟨_, x0, x1, x2, fr⟩ := KRv.out.keep hb3
    clear hb3 KXv KRv Bv hoo HO
    go_wp2
    refine bodyPost_ret (v := .tuple #[.agg #[.int .i64 oo, .int .i64 nn, .string ⟨#[]⟩], .bool ok]) (by simp [results, Tryz.results21, go_sem, x0, x1, x2]) rfl ⟨rdV_of (r := rdT s) (q := ((oo, nn, ⟨#[]⟩), ok)) (by rw [HP.out]; exact HT.out), ?_⟩
    exact bl_set3 (Below.setCell hB.out (p := ⟨NX, 0, none⟩) HNx.out _) _ (Nat.le_refl _) _ _ _
  have f37 : ((c.toNat : Int) == 37) = false := noC c 37 (by decide) k37
  by_cases k94 : c = 94
  · have f94 : ((c.toNat : Int) == 94) = true := by rw [k94]; decide
    have HT := hidOf (rdT_txt (t := r) (.inl k94))
    rw [k94] at HT HP h01
    clear k94
    go_enter Tryz.func21, Tryz.ntmps21
    go_wp2_with fail
    obtain ⟨V, hV⟩ : ∃ V, (w.alloc (.cells #[.int .i64 0, .int .i64 0, .string ⟨#[]⟩] 38)).alloc (.cells #[.int .i64 0, .int .i64 0, .string r] 38) = V := ⟨_, rfl⟩
    rw [hV]
    obtain ⟨krv, kxv, bv⟩ := two_box w (.int .i64 0) (.int .i64 0) (.string r) 38
    rw [hV] at krv kxv bv
    have KRv := hidOf krv
    have KXv := hidOf kxv
    have Bv := hidOf bv
    clear hV krv kxv bv HWq KX KR BW
    generalize hNX : w.heap.size + 1 = NX at KXv HWN HWN' ⊢
    have HNx := HWN'
    have hxr : NX ≠ w.heap.size := HWN.out
    have hrx : w.heap.size ≠ NX := fun e => hxr e.symm
    clear hNX
    refine (HO.out ⟨#[94]⟩ V (HL.out.keep Bv.out)).mono ?_
    rintro e w3 ⟨rfl, hb3⟩
    obtain ⟨oo, hoo⟩ : ∃ n : Int, (opT ⟨#[94]⟩ : Int) = n := ⟨_, rfl⟩
    rw [hoo] at HT ⊢
    have hB := hidOf (bl_trans Bv.out hb3)
    obtain ⟨_, y0, y1, y2, fy⟩ := KXv.out.keep hb3
    obtain ⟨_, x0, x1, x2, fr⟩ := KRv.out.keep hb3
    clear hb3 KXv KRv Bv hoo HO
    go_wp2
    refine bodyPost_ret (v := .tuple #[.agg #[.int .i64 oo, .int .i64 0, .string r], .bool true]) (by simp [results, Tryz.results21, go_sem, x0, x1, x2]) rfl ⟨rdV_of (r := rdT s) (q := ((oo, 0, r), true)) (by rw [HP.out]; exact HT.out), ?_⟩
    exact bl_set3 (Below.setCell hB.out (p := ⟨NX, 0, none⟩) HNx.out _) _ (Nat.le_refl _) _ _ _
  have f94 : ((c.toNat : Int) == 94) = false := noC c 94 (by decide) k94
  by_cases k126 : c = 126
  · have f126 : ((c.toNat : Int) == 126) = true := by rw [k126]; decide
    have HT := hidOf (rdT_txt (t := r) (.inr k126))
    rw [k126] at HT HP h01
    clear k126
    go_enter Tryz.func21, Tryz.ntmps21
    go_wp2_with fail
    obtain ⟨V, hV⟩ : ∃ V, (w.alloc (.cells #[.int .i64 0, .int .i64 0, .string ⟨#[]⟩] 38)).alloc (.cells #[.int .i64 0, .int .i64 0, .string r] 38) = V := ⟨_, rfl⟩
    rw [hV]
    obtain ⟨krv, kxv, bv⟩ := two_box w (.int .i64 0) (.int .i64 0) (.string r) 38
    rw [hV] at krv kxv bv
    have KRv := hidOf krv
    have KXv := hidOf kxv
    have Bv := hidOf bv
    clear hV krv kxv bv HWq KX KR BW
    generalize hNX : w.heap.size + 1 = NX at KXv HWN HWN' ⊢
    have HNx := HWN'
    have hxr : NX ≠ w.heap.size := HWN.out
    have hrx : w.heap.size ≠ NX := fun e => hxr e.symm
    clear hNX
    refine (HO.out ⟨#[126]⟩ V (HL.out.keep Bv.out)).mono ?_
    rintro e w3 ⟨rfl, hb3⟩
    obtain ⟨oo, hoo⟩ : ∃ n : Int, (opT ⟨#[126]⟩ : Int) = n := ⟨_, rfl⟩
    rw [hoo] at HT ⊢
    have hB := hidOf (bl_trans Bv.out hb3)
    obtain ⟨_, y0, y1, y2, fy⟩ := KXv.out.keep hb3
    obtain ⟨_, x0, x1, x2, fr⟩ := KRv.out.keep hb3
    clear hb3 KXv KRv Bv hoo HO
    go_wp2
    refine bodyPost_ret (v := .tuple #[.agg #[.int .i64 oo, .int .i64 0, .string r], .bool true]) (by simp [results, Tryz.results21, go_sem, x0, x1, x2]) rfl ⟨rdV_of (r := rdT s) (q := ((oo, 0, r), true)) (by rw [HP.out]; exact HT.out), ?_⟩
    exact bl_set3 (Below.setCell hB.out (p := ⟨NX, 0, none⟩) HNx.out _) _ (Nat.le_refl _) _ _ _
  have f126 : ((c.toNat : Int) == 126) = false := noC c 126 (by decide) k126
  have HT := hidOf (rdT_else (t := r) (by rintro (h | h); exact k60 h; exact k37 h) (by rintro (h | h); exact k94 h; exact k126 h))
  clear k60 k37 k94 k126
  go_enter Tryz.func21, Tryz.ntmps21
  go_wp2_with fail
  rw [HWq.out]
  clear HWq
  generalize hNX : w.heap.size + 1 = NX at KX HWN HWN' ⊢
  have HNx := HWN'
  have hxr : NX ≠ w.heap.size := HWN.out
  have hrx : w.heap.size ≠ NX := fun e => hxr e.symm
  clear hNX
  refine (HO.out s W (HL.out.keep BW.out)).mono ?_
  rintro e w3 ⟨rfl, hb3⟩
  rw [← HP.out] at HT
  obtain ⟨oo, hoo⟩ : ∃ n : Int, (opT s : Int) = n := ⟨_, rfl⟩
  rw [hoo] at HT ⊢
  have hB := hidOf (bl_trans BW.out hb3)
  obtain ⟨_, y0, y1, y2, fy⟩ := KX.out.keep hb3
  obtain ⟨_, x0, x1, x2, fr⟩ := KR.out.keep hb3
  clear hb3 KX KR BW hoo HO
  go_wp2
  refine bodyPost_ret (v := .tuple #[.agg #[.int .i64 oo, .int .i64 0, .string ⟨#[]⟩], .bool true]) (by simp [results, Tryz.results21, go_sem, x0, x1, x2]) rfl ⟨rdV_of (r := rdT s) (q := ((oo, 0, ⟨#[]⟩), true)) HT.out, ?_⟩
  exact bl_set3 (Below.setCell hB.out (p := ⟨NX, 0, none⟩) HNx.out _) _ (Nat.le_refl _) _ _ _
end Go.Proofs.YtljecghkechcaaaGreatDoor
