/-
  Walk of the program's Changed.
-/
import Derived.Test.YtbbhaekmjnincaaBX3
import Derived.Test.YtbbhaekmjnincaaSpC5
namespace Go.Proofs.Ytbbhaekmjnincaa
open Go.RowKit Go.Maps Pl Il

/-- The three variables of the program's Changed. -/
structure ChJ (w : World) (k n : Int) (s : ByteArray) (kind k' n' : Int) (s' : ByteArray) (u : World) : Prop where
  m : Box3 w.heap.size (.int .i64 k) (.int .i64 n) (.string s) u
  x0 : u.cell? ⟨w.heap.size + 1, 0, none⟩ = some (.int .i64 kind)
  x1 : u.cell? ⟨w.heap.size + 1, 1, none⟩ = some (.int .i64 k')
  x2 : u.cell? ⟨w.heap.size + 1, 2, none⟩ = some (.int .i64 n')
  x3 : u.cell? ⟨w.heap.size + 1, 3, none⟩ = some (.string s')
  r : Box3 (w.heap.size + 1 + 1) (.int .i64 0) (.int .i64 0) (.string ⟨#[]⟩) u
  below : Below w.heap.size w u
theorem ChJ.keep {w : World} {k n : Int} {s : ByteArray} {kind k' n' : Int} {s' : ByteArray} {u u' : World} (h : ChJ w k n s kind k' n' s' u) (hb : Below u.heap.size u u') : ChJ w k n s kind k' n' s' u' :=
  ⟨h.m.keep hb, cellU h.x0 hb, cellU h.x1 hb, cellU h.x2 hb, cellU h.x3 hb, h.r.keep hb, bl_trans h.below hb⟩
theorem ChJ.fin {w : World} {k n : Int} {s : ByteArray} {kind k' n' : Int} {s' : ByteArray} {u : World} (h : ChJ w k n s kind k' n' s' u) (y0 y1 y2 : Value) : Below w.heap.size w (((u.setCell ⟨w.heap.size + 1 + 1, 0, none⟩ y0).setCell ⟨w.heap.size + 1 + 1, 1, none⟩ y1).setCell ⟨w.heap.size + 1 + 1, 2, none⟩ y2) :=
  bl_set1 (bl_set1 (bl_set1 h.below _ 0 (by omega) y0) _ 1 (by omega) y1) _ 2 (by omega) y2
theorem chj_new (w : World) (k n : Int) (s : ByteArray) (kind k' n' : Int) (s' : ByteArray) : ChJ w k n s kind k' n' s' (((w.alloc (.cells #[.int .i64 k, .int .i64 n, .string s] 25)).alloc (.cells #[.int .i64 kind, .int .i64 k', .int .i64 n', .string s'] 34)).alloc (.cells #[.int .i64 0, .int .i64 0, .string ⟨#[]⟩] 25)) := by
  have s1 : (w.alloc (.cells #[.int .i64 k, .int .i64 n, .string s] 25)).heap.size = w.heap.size + 1 := by simp
  have s2 : ((w.alloc (.cells #[.int .i64 k, .int .i64 n, .string s] 25)).alloc (.cells #[.int .i64 kind, .int .i64 k', .int .i64 n', .string s'] 34)).heap.size = w.heap.size + 1 + 1 := by simp
  have bb : ∀ (v : World) (a : Obj), Below v.heap.size v (v.alloc a) := fun v a => bl_alloc (Below.refl _ _) _
  refine ⟨(((Box3.new w _ _ _ _).alloc _).alloc _), cellU ?_ (bb _ _), cellU ?_ (bb _ _), cellU ?_ (bb _ _), cellU ?_ (bb _ _), ?_, bl_alloc (bl_alloc (bl_alloc (Below.refl _ _) _) _) _⟩
  · rw [← s1]; simp
  · rw [← s1]; simp
  · rw [← s1]; simp
  · rw [← s1]; simp
  · rw [← s2]; exact Box3.new _ _ _ _ _
set_option maxRecDepth 100000 in
set_option maxHeartbeats 2000000 in
theorem implChanged_any (k n : Int) (s : ByteArray) (kind k' n' : Int) (s' : ByteArray) (w : World) (hs : s.size ≤ maxLen) (hs' : s'.size ≤ maxLen) (hk : (Lit.int .i64 kind).wf = true) :
    Calls Try.prog 14 #[.agg #[.int .i64 k, .int .i64 n, .string s], .agg #[.int .i64 kind, .int .i64 k', .int .i64 n', .string s']] w fun e w' => ChP (changedM k n s kind k' n' s') e ∧ Below w.heap.size w w' := by
  have HV0 := hidOf (chj_new w k n s kind k' n' s')
  have HK := hidOf hk
  clear hk
  go_enter Try.func14, Try.ntmps14
  go_wp2_with fail
  refine (body_two k n s _ hs).mono ?_
  rintro e w1 ⟨⟨v1, rfl, hv1⟩, hb1⟩
  have HE1 := hidOf hv1
  have V1 := HV0.out.keep hb1
  obtain ⟨_, m0, m1, m2, mf⟩ := id V1.m
  have x0 := V1.x0
  have x1 := V1.x1
  have x2 := V1.x2
  have x3 := V1.x3
  obtain ⟨_, r0, r1, r2, rf⟩ := id V1.r
  have HV1 := hidOf V1
  clear V1 hb1 HV0 hv1
  go_wp2_with fail
  refine (body_two k' n' s' _ hs').mono ?_
  rintro e w2 ⟨⟨v2, rfl, hv2⟩, hb2⟩
  have HE2 := hidOf hv2
  have V2 := HV1.out.keep hb2
  clear m0 m1 m2 mf x0 x1 x2 x3 r0 r1 r2 rf
  have x0 := V2.x0
  have HV2 := hidOf V2
  clear V2 hb2 HV1 hv2
  go_wp2_with fail
  first | (go_region_with (first | (go_at_call 30; refine (changes_any _).mono ?_; rintro e w3 ⟨mb, mm, rfl, hmap, hb3⟩; have V3 := HV2.out.keep ((Below.refl _ _).drew.trans hb3); obtain ⟨v3, b3, hlook, hc3⟩ := tab_any k n s k' n' s' w3 mb mm kind hmap HK.out; have x0' := V3.x0; have HV3 := hidOf V3; have HC3 := hidOf hc3; clear V3 hc3 hb3 hmap))) | fail
  all_goals
    clear HV2 x0
    obtain ⟨_, r0, r1, r2, rf⟩ := id HV3.out.r
    cases h0 : okB k n s
    · have HR := hidOf (ch_no1 (kind := kind) (k' := k') (n' := n') (s' := s') h0)
      have HF := hidOf (HV3.out.fin (.int .i64 0) (.int .i64 0) (.string ⟨#[]⟩))
      go_wp2
      refine bodyPost_ret (v := .tuple #[.agg #[.int .i64 0, .int .i64 0, .string ⟨#[]⟩], .bool false]) (by simp [results, Try.results14, go_sem, r0, r1, r2]) rfl ?_
      exact ⟨by unfold ChP; rw [HR.out]; rfl, HF.out⟩
    cases h1 : okB k' n' s'
    · have HR := hidOf (ch_no2 (kind := kind) h0 h1)
      have HF := hidOf (HV3.out.fin (.int .i64 0) (.int .i64 0) (.string ⟨#[]⟩))
      go_wp2
      refine bodyPost_ret (v := .tuple #[.agg #[.int .i64 0, .int .i64 0, .string ⟨#[]⟩], .bool false]) (by simp [results, Try.results14, go_sem, r0, r1, r2]) rfl ?_
      exact ⟨by unfold ChP; rw [HR.out]; rfl, HF.out⟩
    have HO := hidOf (And.intro h0 h1)
    rcases HC3.out with ⟨rfl, hn⟩ | ⟨rfl, f, rfl, hcf, hf⟩
    · have HR := hidOf (ch_none h0 h1 hn)
      have HF := hidOf (HV3.out.fin (.int .i64 0) (.int .i64 0) (.string ⟨#[]⟩))
      clear hn
      go_wp2
      refine bodyPost_ret (v := .tuple #[.agg #[.int .i64 0, .int .i64 0, .string ⟨#[]⟩], .bool false]) (by simp [results, Try.results14, go_sem, r0, r1, r2]) rfl ?_
      exact ⟨by unfold ChP; rw [HR.out]; rfl, HF.out⟩
    · have HFf := hidOf (fun u => hf u h0 h1)
      have e1 := HE1.out h0
      have e2 := HE2.out h1
      subst e1 e2
      clear hf HE1 HE2
      go_wp2_with fail
      refine (HFf.out _).mono ?_
      rintro e w4 ⟨ha, hb4⟩
      have V4 := HV3.out.keep hb4
      clear r0 r1 r2 rf x0' HFf HC3 hcf
      obtain ⟨_, r0, r1, r2, rf⟩ := id V4.r
      have HV4 := hidOf V4
      clear V4 hb4 HV3
      rcases ha with ⟨hr, v4, rfl⟩ | ⟨b, hr, rfl⟩ | ⟨c, hc, hr, rfl⟩
      · have HR := hidOf (ch_none HO.out.1 HO.out.2 hr)
        have HF := hidOf (HV4.out.fin (.int .i64 0) (.int .i64 0) (.string ⟨#[]⟩))
        clear hr
        go_wp2
        refine bodyPost_ret (v := .tuple #[.agg #[.int .i64 0, .int .i64 0, .string ⟨#[]⟩], .bool false]) (by simp [results, Try.results14, go_sem, r0, r1, r2]) rfl ?_
        exact ⟨by unfold ChP; rw [HR.out]; rfl, HF.out⟩
      · have mr := meth_right_num b
        have mm := meth_msg_num b
        have HRw := hidOf (ch_some HO.out.1 HO.out.2 hr)
        clear hr
        go_wp2_with fail
        refine (right_num b _).mono ?_
        rintro e w5 ⟨rfl, rfl⟩
        cases h9 : okNum b
        · have HR := hidOf (HRw.out.trans (if_neg (by rw [okB_num, h9]; simp)))
          have HF := hidOf (HV4.out.fin (.int .i64 0) (.int .i64 0) (.string ⟨#[]⟩))
          go_wp2
          refine bodyPost_ret (v := .tuple #[.agg #[.int .i64 0, .int .i64 0, .string ⟨#[]⟩], .bool false]) (by simp [results, Try.results14, go_sem, r0, r1, r2]) rfl ?_
          exact ⟨by unfold ChP; rw [HR.out]; rfl, HF.out⟩
        · have HR := hidOf (HRw.out.trans (if_pos (by rw [okB_num, h9])))
          go_wp2_with fail
          refine (msg_num b _).mono ?_
          rintro e w6 ⟨rfl, hw6⟩
          have V6 := HV4.out.keep (hw6 ▸ bl_alloc (Below.refl _ _) _)
          clear r0 r1 r2 rf hw6
          obtain ⟨_, r0, r1, r2, rf⟩ := id V6.r
          have HF := hidOf (V6.fin (.int .i64 1) (.int .i64 b) (.string ⟨#[]⟩))
          clear V6
          go_wp2
          refine bodyPost_ret (v := .tuple #[.agg #[.int .i64 1, .int .i64 b, .string ⟨#[]⟩], .bool true]) (by simp [results, Try.results14, go_sem, r0, r1, r2]) rfl ?_
          exact ⟨by unfold ChP; rw [HR.out], HF.out⟩
      · have mr := meth_right_text c
        have mm := meth_msg_text c
        have HRw := hidOf (ch_some HO.out.1 HO.out.2 hr)
        clear hr
        go_wp2_with fail
        refine (right_text c _ hc).mono ?_
        rintro e w5 ⟨rfl, rfl⟩
        cases h9 : plainB c
        · have HR := hidOf (HRw.out.trans (if_neg (by rw [okB_txt, h9]; simp)))
          have HF := hidOf (HV4.out.fin (.int .i64 0) (.int .i64 0) (.string ⟨#[]⟩))
          go_wp2
          refine bodyPost_ret (v := .tuple #[.agg #[.int .i64 0, .int .i64 0, .string ⟨#[]⟩], .bool false]) (by simp [results, Try.results14, go_sem, r0, r1, r2]) rfl ?_
          exact ⟨by unfold ChP; rw [HR.out]; rfl, HF.out⟩
        · have HR := hidOf (HRw.out.trans (if_pos (by rw [okB_txt, h9])))
          go_wp2_with fail
          refine (msg_text c _).mono ?_
          rintro e w6 ⟨rfl, hw6⟩
          have V6 := HV4.out.keep (hw6 ▸ bl_alloc (Below.refl _ _) _)
          clear r0 r1 r2 rf hw6
          obtain ⟨_, r0, r1, r2, rf⟩ := id V6.r
          have HF := hidOf (V6.fin (.int .i64 2) (.int .i64 0) (.string c))
          clear V6
          go_wp2
          refine bodyPost_ret (v := .tuple #[.agg #[.int .i64 2, .int .i64 0, .string c], .bool true]) (by simp [results, Try.results14, go_sem, r0, r1, r2]) rfl ?_
          exact ⟨by unfold ChP; rw [HR.out], HF.out⟩
end Go.Proofs.Ytbbhaekmjnincaa
