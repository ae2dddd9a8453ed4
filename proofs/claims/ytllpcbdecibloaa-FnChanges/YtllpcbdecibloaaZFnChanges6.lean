/-
  Walk of the specification's Changed.
-/
import Derived.Test.YtllpcbdecibloaaZFnChanges5
namespace Go.Proofs.Ytllpcbdecibloaa
open Go.RowKit Pl Il

/-- The four variables of the specification's Changed. -/
structure ChV (w : World) (k n : Int) (s : ByteArray) (kind k' n' : Int) (s' : ByteArray) (o1 o2 : Int) (o3 : ByteArray) (u : World) : Prop where
  m : Box3 w.heap.size (.int .i64 k) (.int .i64 n) (.string s) u
  x0 : u.cell? ⟨w.heap.size + 1, 0, none⟩ = some (.int .i64 kind)
  x1 : u.cell? ⟨w.heap.size + 1, 1, none⟩ = some (.int .i64 k')
  x2 : u.cell? ⟨w.heap.size + 1, 2, none⟩ = some (.int .i64 n')
  x3 : u.cell? ⟨w.heap.size + 1, 3, none⟩ = some (.string s')
  r : Box3 (w.heap.size + 1 + 1) (.int .i64 0) (.int .i64 0) (.string ⟨#[]⟩) u
  o : Box3 (w.heap.size + 1 + 1 + 1) (.int .i64 o1) (.int .i64 o2) (.string o3) u
  below : Below w.heap.size w u
theorem cellU {w w' : World} {a : Addr} {v : Value} (h : w.cell? a = some v) (hb : Below w.heap.size w w') : w'.cell? a = some v := by
  rw [hb.cell (p := a) (World.block_lt_of_cell? w a h)]; exact h
theorem ChV.keep {w : World} {k n : Int} {s : ByteArray} {kind k' n' : Int} {s' : ByteArray} {o1 o2 : Int} {o3 : ByteArray} {u u' : World} (h : ChV w k n s kind k' n' s' o1 o2 o3 u) (hb : Below u.heap.size u u') : ChV w k n s kind k' n' s' o1 o2 o3 u' :=
  ⟨h.m.keep hb, cellU h.x0 hb, cellU h.x1 hb, cellU h.x2 hb, cellU h.x3 hb, h.r.keep hb, h.o.keep hb, bl_trans h.below hb⟩
theorem Pl.Box3.far {N : Nat} {v0 v1 v2 : Value} {w : World} (h : Box3 N v0 v1 v2 w) (M o : Nat) (hM : N ≠ M) (y : Value) : Box3 N v0 v1 v2 (w.setCell ⟨M, o, none⟩ y) := by
  have key := Below.heap_setCell w ⟨M, o, none⟩ y N hM
  exact ⟨by simpa using h.lt, by rw [← h.c0]; exact World.cell?_of_block key, by rw [← h.c1]; exact World.cell?_of_block key, by rw [← h.c2]; exact World.cell?_of_block key, fun q => by rw [← h.fr q]; exact World.frozen?_of_block key⟩
theorem cellF {w : World} {N M o o' : Nat} {v y : Value} (h : w.cell? ⟨N, o, none⟩ = some v) (hM : N ≠ M) : (w.setCell ⟨M, o', none⟩ y).cell? ⟨N, o, none⟩ = some v := by
  rw [World.cell?_setCell_other _ _ _ _ (by intro e; cases e; exact hM rfl)]; exact h
/-- A number of the new message is stored. -/
theorem ChV.num {w : World} {k n : Int} {s : ByteArray} {kind k' n' : Int} {s' : ByteArray} {o1 o2 : Int} {o3 : ByteArray} {u : World} (h : ChV w k n s kind k' n' s' o1 o2 o3 u) (v : Int) : ChV w k n s kind k' n' s' o1 v o3 (u.setCell ⟨w.heap.size + 1 + 1 + 1, 1, none⟩ (.int .i64 v)) :=
  ⟨h.m.far _ _ (by omega) _, cellF h.x0 (by omega), cellF h.x1 (by omega), cellF h.x2 (by omega), cellF h.x3 (by omega), h.r.far _ _ (by omega) _,
    ⟨by simpa using h.o.lt, by rw [World.cell?_setCell_other _ _ _ _ (by simp)]; exact h.o.c0, World.cell?_setCell_same _ _ _ h.o.c1, by rw [World.cell?_setCell_other _ _ _ _ (by simp)]; exact h.o.c2, fun q => by simpa using h.o.fr q⟩, bl_set1 h.below _ _ (by omega) _⟩
theorem ChV.text {w : World} {k n : Int} {s : ByteArray} {kind k' n' : Int} {s' : ByteArray} {o1 o2 : Int} {o3 : ByteArray} {u : World} (h : ChV w k n s kind k' n' s' o1 o2 o3 u) (v : ByteArray) : ChV w k n s kind k' n' s' o1 o2 v (u.setCell ⟨w.heap.size + 1 + 1 + 1, 2, none⟩ (.string v)) :=
  ⟨h.m.far _ _ (by omega) _, cellF h.x0 (by omega), cellF h.x1 (by omega), cellF h.x2 (by omega), cellF h.x3 (by omega), h.r.far _ _ (by omega) _,
    ⟨by simpa using h.o.lt, by rw [World.cell?_setCell_other _ _ _ _ (by simp)]; exact h.o.c0, by rw [World.cell?_setCell_other _ _ _ _ (by simp)]; exact h.o.c1, World.cell?_setCell_same _ _ _ h.o.c2, fun q => by simpa using h.o.fr q⟩, bl_set1 h.below _ _ (by omega) _⟩
theorem ChV.all {w : World} {k n : Int} {s : ByteArray} {kind k' n' : Int} {s' : ByteArray} {o1 o2 : Int} {o3 : ByteArray} {u : World} (h : ChV w k n s kind k' n' s' o1 o2 o3 u) (a b : Int) (c : ByteArray) : ChV w k n s kind k' n' s' a b c (((u.setCell ⟨w.heap.size + 1 + 1 + 1, 0, none⟩ (.int .i64 a)).setCell ⟨w.heap.size + 1 + 1 + 1, 1, none⟩ (.int .i64 b)).setCell ⟨w.heap.size + 1 + 1 + 1, 2, none⟩ (.string c)) := by
  have h1 : ChV w k n s kind k' n' s' a o2 o3 (u.setCell ⟨w.heap.size + 1 + 1 + 1, 0, none⟩ (.int .i64 a)) :=
    ⟨h.m.far _ _ (by omega) _, cellF h.x0 (by omega), cellF h.x1 (by omega), cellF h.x2 (by omega), cellF h.x3 (by omega), h.r.far _ _ (by omega) _,
      ⟨by simpa using h.o.lt, World.cell?_setCell_same _ _ _ h.o.c0, by rw [World.cell?_setCell_other _ _ _ _ (by simp)]; exact h.o.c1, by rw [World.cell?_setCell_other _ _ _ _ (by simp)]; exact h.o.c2, fun q => by simpa using h.o.fr q⟩, bl_set1 h.below _ _ (by omega) _⟩
  exact (h1.num b).text c
theorem ChV.fin {w : World} {k n : Int} {s : ByteArray} {kind k' n' : Int} {s' : ByteArray} {o1 o2 : Int} {o3 : ByteArray} {u : World} (h : ChV w k n s kind k' n' s' o1 o2 o3 u) (y0 y1 y2 : Value) : Below w.heap.size w (((u.setCell ⟨w.heap.size + 1 + 1, 0, none⟩ y0).setCell ⟨w.heap.size + 1 + 1, 1, none⟩ y1).setCell ⟨w.heap.size + 1 + 1, 2, none⟩ y2) :=
  bl_set1 (bl_set1 (bl_set1 h.below _ 0 (by omega) y0) _ 1 (by omega) y1) _ 2 (by omega) y2
theorem chv_new (w : World) (k n : Int) (s : ByteArray) (kind k' n' : Int) (s' : ByteArray) : ChV w k n s kind k' n' s' k' n' s' ((((w.alloc (.cells #[.int .i64 k, .int .i64 n, .string s] 25)).alloc (.cells #[.int .i64 kind, .int .i64 k', .int .i64 n', .string s'] 27)).alloc (.cells #[.int .i64 0, .int .i64 0, .string ⟨#[]⟩] 25)).alloc (.cells #[.int .i64 k', .int .i64 n', .string s'] 25)) := by
  have s1 : (w.alloc (.cells #[.int .i64 k, .int .i64 n, .string s] 25)).heap.size = w.heap.size + 1 := by simp
  have s2 : ((w.alloc (.cells #[.int .i64 k, .int .i64 n, .string s] 25)).alloc (.cells #[.int .i64 kind, .int .i64 k', .int .i64 n', .string s'] 27)).heap.size = w.heap.size + 1 + 1 := by simp
  have s3 : (((w.alloc (.cells #[.int .i64 k, .int .i64 n, .string s] 25)).alloc (.cells #[.int .i64 kind, .int .i64 k', .int .i64 n', .string s'] 27)).alloc (.cells #[.int .i64 0, .int .i64 0, .string ⟨#[]⟩] 25)).heap.size = w.heap.size + 1 + 1 + 1 := by simp
  have bb : ∀ (v : World) (a b : Obj), Below v.heap.size v ((v.alloc a).alloc b) := fun v a b => bl_alloc (bl_alloc (Below.refl _ _) _) _
  refine ⟨((((Box3.new w _ _ _ _).alloc _).alloc _).alloc _), cellU ?_ (bb _ _ _), cellU ?_ (bb _ _ _), cellU ?_ (bb _ _ _), cellU ?_ (bb _ _ _), ?_, ?_, bl_alloc (bl_alloc (bl_alloc (bl_alloc (Below.refl _ _) _) _) _) _⟩
  · rw [← s1]; simp
  · rw [← s1]; simp
  · rw [← s1]; simp
  · rw [← s1]; simp
  · rw [← s2]; exact (Box3.new _ _ _ _ _).alloc _
  · rw [← s3]; exact Box3.new _ _ _ _ _
theorem num_bd {n : Int} {s : ByteArray} (h : okB 1 n s = true) : -999999999 ≤ n ∧ n ≤ 999999999 := by
  simp [okB, okNum] at h
  exact h.2
theorem txt_bd {n : Int} {s : ByteArray} (h : okB 2 n s = true) : n = 0 ∧ s.size ≤ 40 := by
  simp [okB, plainB] at h
  exact ⟨h.1, h.2.1⟩
theorem wrap_sum {n m : Int} (h : -999999999 ≤ n ∧ n ≤ 999999999) (h' : -999999999 ≤ m ∧ m ≤ 999999999) : IntKind.i64.wrap (n + m) = n + m := by
  rw [IntKind.wrap_i64]; omega
set_option maxRecDepth 100000 in
set_option maxHeartbeats 2000000 in
theorem specChanged_any (k n : Int) (s : ByteArray) (kind k' n' : Int) (s' : ByteArray) (w : World) (hs : s.size ≤ maxLen) (hs' : s'.size ≤ maxLen) :
    Calls Try.prog 13 #[.agg #[.int .i64 k, .int .i64 n, .string s], .agg #[.int .i64 kind, .int .i64 k', .int .i64 n', .string s']] w fun e w' => ChP (changedM k n s kind k' n' s') e ∧ Below w.heap.size w w' := by
  have HV0 := hidOf (chv_new w k n s kind k' n' s')
  go_enter Try.func13, Try.ntmps13
  go_wp2_with fail
  refine (specMsgOk_any k n s _ hs).mono ?_
  rintro e w1 ⟨rfl, hb1⟩
  have V1 := HV0.out.keep hb1
  obtain ⟨_, m0, m1, m2, mf⟩ := id V1.m
  have x0 := V1.x0
  have x1 := V1.x1
  have x2 := V1.x2
  have x3 := V1.x3
  obtain ⟨_, r0, r1, r2, rf⟩ := id V1.r
  obtain ⟨_, o0, o1, o2, of⟩ := id V1.o
  have HV1 := hidOf V1
  clear V1 hb1 HV0
  cases h0 : okB k n s
  · have HR := hidOf (ch_no1 (kind := kind) (k' := k') (n' := n') (s' := s') h0)
    have HF := hidOf (HV1.out.fin (.int .i64 0) (.int .i64 0) (.string ⟨#[]⟩))
    go_wp2
    refine bodyPost_ret (v := .tuple #[.agg #[.int .i64 0, .int .i64 0, .string ⟨#[]⟩], .bool false]) (by simp [results, Try.results13, go_sem, r0, r1, r2]) rfl ?_
    exact ⟨by unfold ChP; rw [HR.out]; rfl, HF.out⟩
  · go_wp2_with fail
    refine (specMsgOk_any k' n' s' _ hs').mono ?_
    rintro e w2 ⟨rfl, hb2⟩
    have V2 := HV1.out.keep hb2
    clear m0 m1 m2 mf x0 x1 x2 x3 r0 r1 r2 rf o0 o1 o2 of
    obtain ⟨_, m0, m1, m2, mf⟩ := id V2.m
    have x0 := V2.x0
    have x1 := V2.x1
    have x2 := V2.x2
    have x3 := V2.x3
    obtain ⟨_, r0, r1, r2, rf⟩ := id V2.r
    obtain ⟨_, o0, o1, o2, of⟩ := id V2.o
    have HV2 := hidOf V2
    clear V2 hb2 HV1
    cases h1 : okB k' n' s'
    · have HR := hidOf (ch_no2 (kind := kind) h0 h1)
      have HF := hidOf (HV2.out.fin (.int .i64 0) (.int .i64 0) (.string ⟨#[]⟩))
      go_wp2
      refine bodyPost_ret (v := .tuple #[.agg #[.int .i64 0, .int .i64 0, .string ⟨#[]⟩], .bool false]) (by simp [results, Try.results13, go_sem, r0, r1, r2]) rfl ?_
      exact ⟨by unfold ChP; rw [HR.out]; rfl, HF.out⟩
    · by_cases hk1 : kind = 1
      · subst hk1
        have HRw := hidOf (ch_some (kind := 1) h0 h1 (raw1 k n s k' n' s'))
        go_wp2_with fail
        refine (specMsgOk_any k' n' s' _ (hs')).mono ?_
        rintro e w9 ⟨rfl, hb9⟩
        have V9 := HV2.out.keep hb9
        clear m0 m1 m2 mf x0 x1 x2 x3 r0 r1 r2 rf o0 o1 o2 of
        obtain ⟨_, m0, m1, m2, mf⟩ := id V9.m
        have x0 := V9.x0
        have x1 := V9.x1
        have x2 := V9.x2
        have x3 := V9.x3
        obtain ⟨_, r0, r1, r2, rf⟩ := id V9.r
        obtain ⟨_, o0, o1, o2, of⟩ := id V9.o
        have HV9 := hidOf V9
        clear V9 hb9
        cases h9 : okB k' n' s'
        · have HR := hidOf (HRw.out.trans (if_neg (by rw [h9]; simp)))
          have HF := hidOf (HV9.out.fin (.int .i64 0) (.int .i64 0) (.string ⟨#[]⟩))
          go_wp2
          refine bodyPost_ret (v := .tuple #[.agg #[.int .i64 0, .int .i64 0, .string ⟨#[]⟩], .bool false]) (by simp [results, Try.results13, go_sem, r0, r1, r2]) rfl ?_
          exact ⟨by unfold ChP; rw [HR.out]; rfl, HF.out⟩
        · have HR := hidOf (HRw.out.trans (if_pos h9))
          have HF := hidOf (HV9.out.fin (.int .i64 k') (.int .i64 n') (.string s'))
          go_wp2
          refine bodyPost_ret (v := .tuple #[.agg #[.int .i64 k', .int .i64 n', .string s'], .bool true]) (by simp [results, Try.results13, go_sem, r0, r1, r2]) rfl ?_
          exact ⟨by unfold ChP; rw [HR.out], HF.out⟩
      · by_cases hk2 : kind = 2
        · subst hk2
          by_cases c1 : k = 1
          · have c1' : (k != 1) = false := by simp [c1]
            by_cases c2 : k' = 1
            · have c2' : (k' != 1) = false := by simp [c2]
              have hb1 := num_bd (c1 ▸ h0)
              have hb2 := num_bd (c2 ▸ h1)
              have hwr : IntKind.i64.wrap (n + n') = n + n' := wrap_sum hb1 hb2
              have HC := hidOf (And.intro c1 c2)
              have V3 := HV2.out.num (n + n')
              clear c1 c2 hb1 hb2 
              obtain ⟨_, v0, v1, v2, vf⟩ := id V3.o
              have HV3 := hidOf V3
              clear V3
              have HRw := hidOf (ch_some (kind := 2) h0 h1 (raw2 HC.out))
              go_wp2_with fail
              refine (specMsgOk_any k' (n + n') s' _ (hs')).mono ?_
              rintro e w9 ⟨rfl, hb9⟩
              have V9 := HV3.out.keep hb9
              clear m0 m1 m2 mf x0 x1 x2 x3 r0 r1 r2 rf o0 o1 o2 of v0 v1 v2 vf
              obtain ⟨_, m0, m1, m2, mf⟩ := id V9.m
              have x0 := V9.x0
              have x1 := V9.x1
              have x2 := V9.x2
              have x3 := V9.x3
              obtain ⟨_, r0, r1, r2, rf⟩ := id V9.r
              obtain ⟨_, o0, o1, o2, of⟩ := id V9.o
              have HV9 := hidOf V9
              clear V9 hb9
              cases h9 : okB k' (n + n') s'
              · have HR := hidOf (HRw.out.trans (if_neg (by rw [h9]; simp)))
                have HF := hidOf (HV9.out.fin (.int .i64 0) (.int .i64 0) (.string ⟨#[]⟩))
                go_wp2
                refine bodyPost_ret (v := .tuple #[.agg #[.int .i64 0, .int .i64 0, .string ⟨#[]⟩], .bool false]) (by simp [results, Try.results13, go_sem, r0, r1, r2]) rfl ?_
                exact ⟨by unfold ChP; rw [HR.out]; rfl, HF.out⟩
              · have HR := hidOf (HRw.out.trans (if_pos h9))
                have HF := hidOf (HV9.out.fin (.int .i64 k') (.int .i64 (n + n')) (.string s'))
                go_wp2
                refine bodyPost_ret (v := .tuple #[.agg #[.int .i64 k', .int .i64 (n + n'), .string s'], .bool true]) (by simp [results, Try.results13, go_sem, r0, r1, r2]) rfl ?_
                exact ⟨by unfold ChP; rw [HR.out], HF.out⟩
            · have c2' : (k' != 1) = true := by simp [c2]
              have HR := hidOf (ch_none (kind := 2) h0 h1 (raw2n (fun h => c2 h.2)))
              have HF := hidOf (HV2.out.fin (.int .i64 0) (.int .i64 0) (.string ⟨#[]⟩))
              clear c2
              go_wp2
              refine bodyPost_ret (v := .tuple #[.agg #[.int .i64 0, .int .i64 0, .string ⟨#[]⟩], .bool false]) (by simp [results, Try.results13, go_sem, r0, r1, r2]) rfl ?_
              exact ⟨by unfold ChP; rw [HR.out]; rfl, HF.out⟩
          · have c1' : (k != 1) = true := by simp [c1]
            have HR := hidOf (ch_none (kind := 2) h0 h1 (raw2n (fun h => c1 h.1)))
            have HF := hidOf (HV2.out.fin (.int .i64 0) (.int .i64 0) (.string ⟨#[]⟩))
            clear c1
            go_wp2
            refine bodyPost_ret (v := .tuple #[.agg #[.int .i64 0, .int .i64 0, .string ⟨#[]⟩], .bool false]) (by simp [results, Try.results13, go_sem, r0, r1, r2]) rfl ?_
            exact ⟨by unfold ChP; rw [HR.out]; rfl, HF.out⟩
        · by_cases hk3 : kind = 3
          · subst hk3
            by_cases c1 : k = 2
            · have c1' : (k != 2) = false := by simp [c1]
              by_cases c2 : k' = 2
              · have c2' : (k' != 2) = false := by simp [c2]
                have hb1 := (txt_bd (c1 ▸ h0)).2
                have hb2 := (txt_bd (c2 ▸ h1)).2
                have hsz : (s ++ s').size ≤ maxLen := by rw [ByteArray.size_append]; unfold maxLen; omega
                have HC := hidOf (And.intro c1 c2)
                have V3 := HV2.out.text (s ++ s')
                clear c1 c2
                obtain ⟨_, v0, v1, v2, vf⟩ := id V3.o
                have HV3 := hidOf V3
                clear V3
                have HRw := hidOf (ch_some (kind := 3) h0 h1 (raw3 HC.out))
                go_wp2_with fail
                refine (specMsgOk_any k' n' (s ++ s') _ (hsz)).mono ?_
                rintro e w9 ⟨rfl, hb9⟩
                have V9 := HV3.out.keep hb9
                clear m0 m1 m2 mf x0 x1 x2 x3 r0 r1 r2 rf o0 o1 o2 of v0 v1 v2 vf
                obtain ⟨_, m0, m1, m2, mf⟩ := id V9.m
                have x0 := V9.x0
                have x1 := V9.x1
                have x2 := V9.x2
                have x3 := V9.x3
                obtain ⟨_, r0, r1, r2, rf⟩ := id V9.r
                obtain ⟨_, o0, o1, o2, of⟩ := id V9.o
                have HV9 := hidOf V9
                clear V9 hb9
                cases h9 : okB k' n' (s ++ s')
                · have HR := hidOf (HRw.out.trans (if_neg (by rw [h9]; simp)))
                  have HF := hidOf (HV9.out.fin (.int .i64 0) (.int .i64 0) (.string ⟨#[]⟩))
                  go_wp2
                  refine bodyPost_ret (v := .tuple #[.agg #[.int .i64 0, .int .i64 0, .string ⟨#[]⟩], .bool false]) (by simp [results, Try.results13, go_sem, r0, r1, r2]) rfl ?_
                  exact ⟨by unfold ChP; rw [HR.out]; rfl, HF.out⟩
                · have HR := hidOf (HRw.out.trans (if_pos h9))
                  have HF := hidOf (HV9.out.fin (.int .i64 k') (.int .i64 n') (.string (s ++ s')))
                  go_wp2
                  refine bodyPost_ret (v := .tuple #[.agg #[.int .i64 k', .int .i64 n', .string (s ++ s')], .bool true]) (by simp [results, Try.results13, go_sem, r0, r1, r2]) rfl ?_
                  exact ⟨by unfold ChP; rw [HR.out], HF.out⟩
              · have c2' : (k' != 2) = true := by simp [c2]
                have HR := hidOf (ch_none (kind := 3) h0 h1 (raw3n (fun h => c2 h.2)))
                have HF := hidOf (HV2.out.fin (.int .i64 0) (.int .i64 0) (.string ⟨#[]⟩))
                clear c2
                go_wp2
                refine bodyPost_ret (v := .tuple #[.agg #[.int .i64 0, .int .i64 0, .string ⟨#[]⟩], .bool false]) (by simp [results, Try.results13, go_sem, r0, r1, r2]) rfl ?_
                exact ⟨by unfold ChP; rw [HR.out]; rfl, HF.out⟩
            · have c1' : (k != 2) = true := by simp [c1]
              have HR := hidOf (ch_none (kind := 3) h0 h1 (raw3n (fun h => c1 h.1)))
              have HF := hidOf (HV2.out.fin (.int .i64 0) (.int .i64 0) (.string ⟨#[]⟩))
              clear c1
              go_wp2
              refine bodyPost_ret (v := .tuple #[.agg #[.int .i64 0, .int .i64 0, .string ⟨#[]⟩], .bool false]) (by simp [results, Try.results13, go_sem, r0, r1, r2]) rfl ?_
              exact ⟨by unfold ChP; rw [HR.out]; rfl, HF.out⟩
          · by_cases hk4 : kind = 4
            · subst hk4
              go_wp2_with fail
              refine (specLess_any k' n' s' k n s _ hs' hs).mono ?_
              rintro e w3 ⟨rfl, hb3⟩
              have V3 := HV2.out.keep hb3
              clear m0 m1 m2 mf x0 x1 x2 x3 r0 r1 r2 rf o0 o1 o2 of
              obtain ⟨_, m0, m1, m2, mf⟩ := id V3.m
              have x0 := V3.x0
              have x1 := V3.x1
              have x2 := V3.x2
              have x3 := V3.x3
              obtain ⟨_, r0, r1, r2, rf⟩ := id V3.r
              obtain ⟨_, o0, o1, o2, of⟩ := id V3.o
              have HV3 := hidOf V3
              clear V3 hb3 HV2
              cases hl : ltB k' n' s' k n s
              · have HRw := hidOf (ch_some (kind := 4) h0 h1 (raw4n hl))
                go_wp2_with fail
                refine (specMsgOk_any k' n' s' _ (hs')).mono ?_
                rintro e w9 ⟨rfl, hb9⟩
                have V9 := HV3.out.keep hb9
                clear m0 m1 m2 mf x0 x1 x2 x3 r0 r1 r2 rf o0 o1 o2 of
                obtain ⟨_, m0, m1, m2, mf⟩ := id V9.m
                have x0 := V9.x0
                have x1 := V9.x1
                have x2 := V9.x2
                have x3 := V9.x3
                obtain ⟨_, r0, r1, r2, rf⟩ := id V9.r
                obtain ⟨_, o0, o1, o2, of⟩ := id V9.o
                have HV9 := hidOf V9
                clear V9 hb9
                cases h9 : okB k' n' s'
                · have HR := hidOf (HRw.out.trans (if_neg (by rw [h9]; simp)))
                  have HF := hidOf (HV9.out.fin (.int .i64 0) (.int .i64 0) (.string ⟨#[]⟩))
                  go_wp2
                  refine bodyPost_ret (v := .tuple #[.agg #[.int .i64 0, .int .i64 0, .string ⟨#[]⟩], .bool false]) (by simp [results, Try.results13, go_sem, r0, r1, r2]) rfl ?_
                  exact ⟨by unfold ChP; rw [HR.out]; rfl, HF.out⟩
                · have HR := hidOf (HRw.out.trans (if_pos h9))
                  have HF := hidOf (HV9.out.fin (.int .i64 k') (.int .i64 n') (.string s'))
                  go_wp2
                  refine bodyPost_ret (v := .tuple #[.agg #[.int .i64 k', .int .i64 n', .string s'], .bool true]) (by simp [results, Try.results13, go_sem, r0, r1, r2]) rfl ?_
                  exact ⟨by unfold ChP; rw [HR.out], HF.out⟩
              · have V4 := HV3.out.all k n s
                obtain ⟨_, v0, v1, v2, vf⟩ := id V4.o
                have HV4 := hidOf V4
                clear V4
                have HRw := hidOf (ch_some (kind := 4) h0 h1 (raw4y hl))
                go_wp2_with fail
                refine (specMsgOk_any k n s _ (hs)).mono ?_
                rintro e w9 ⟨rfl, hb9⟩
                have V9 := HV4.out.keep hb9
                clear m0 m1 m2 mf x0 x1 x2 x3 r0 r1 r2 rf o0 o1 o2 of v0 v1 v2 vf
                obtain ⟨_, m0, m1, m2, mf⟩ := id V9.m
                have x0 := V9.x0
                have x1 := V9.x1
                have x2 := V9.x2
                have x3 := V9.x3
                obtain ⟨_, r0, r1, r2, rf⟩ := id V9.r
                obtain ⟨_, o0, o1, o2, of⟩ := id V9.o
                have HV9 := hidOf V9
                clear V9 hb9
                cases h9 : okB k n s
                · have HR := hidOf (HRw.out.trans (if_neg (by rw [h9]; simp)))
                  have HF := hidOf (HV9.out.fin (.int .i64 0) (.int .i64 0) (.string ⟨#[]⟩))
                  go_wp2
                  refine bodyPost_ret (v := .tuple #[.agg #[.int .i64 0, .int .i64 0, .string ⟨#[]⟩], .bool false]) (by simp [results, Try.results13, go_sem, r0, r1, r2]) rfl ?_
                  exact ⟨by unfold ChP; rw [HR.out]; rfl, HF.out⟩
                · have HR := hidOf (HRw.out.trans (if_pos h9))
                  have HF := hidOf (HV9.out.fin (.int .i64 k) (.int .i64 n) (.string s))
                  go_wp2
                  refine bodyPost_ret (v := .tuple #[.agg #[.int .i64 k, .int .i64 n, .string s], .bool true]) (by simp [results, Try.results13, go_sem, r0, r1, r2]) rfl ?_
                  exact ⟨by unfold ChP; rw [HR.out], HF.out⟩
            · have e1 : (kind == 1) = false := by simp [hk1]
              have e2 : (kind == 2) = false := by simp [hk2]
              have e3 : (kind == 3) = false := by simp [hk3]
              have e4 : (kind == 4) = false := by simp [hk4]
              have HR := hidOf (ch_none (kind := kind) h0 h1 (raw0 hk1 hk2 hk3 hk4))
              have HF := hidOf (HV2.out.fin (.int .i64 0) (.int .i64 0) (.string ⟨#[]⟩))
              clear hk1 hk2 hk3 hk4
              go_wp2
              refine bodyPost_ret (v := .tuple #[.agg #[.int .i64 0, .int .i64 0, .string ⟨#[]⟩], .bool false]) (by simp [results, Try.results13, go_sem, r0, r1, r2]) rfl ?_
              exact ⟨by unfold ChP; rw [HR.out]; rfl, HF.out⟩
end Go.Proofs.Ytllpcbdecibloaa
