/-
  Walk of the program's Changed.
  What an update of a cell answers: plain mathematics.
  A change in a variable of four cells; its size, and its copy.
  What a call on a cell and a change holds on to.
-/
import Derived.Test.YtbhdjcggcgddfaaZFnExactUpdate10
import Derived.Test.YtbhdjcggcgddfaaZFnExactUpdate11
import Derived.Test.YtbhdjcggcgddfaaZFnExactUpdate8
namespace Go.Proofs.Ytbhdjcggcgddfaa
open Go.RowKit Go.Maps Pl Il

/-- The three variables of the program's Changed. -/
structure ChJ (w : World) (k n : Int) (s : ByteArray) (kind k' n' : Int) (s' : ByteArray) (u : World) : Prop where
  m : Box3 w.heap.size (.int .i64 k) (.int .i64 n) (.string s) u
  x0 : u.cell? ⟨w.heap.size + 1, 0, none⟩ = some (.int .i64 kind)
  x1 : u.cell? ⟨w.heap.size + 1, 1, none⟩ = some (.int .i64 k')
  x2 : u.cell? ⟨w.heap.size + 1, 2, none⟩ = some (.int .i64 n')
  x3 : u.cell? ⟨w.heap.size + 1, 3, none⟩ = some (.string s')
  r : Box3 (w.heap.size + 1 + 1) (.int .i64 0) (.int .i64 0) (.string ⟨#[]⟩) u
  below : Below w.heap.size w u
theorem ChJ.keep {w : World} {k n : Int} {s : ByteArray} {kind k' n' : Int} {s' : ByteArray} {u u' : World} (h : ChJ w k n s kind k' n' s' u) (hb : Below u.heap.size u u') : ChJ w k n s kind k' n' s' u' :=
  ⟨h.m.keep hb, cellU h.x0 hb, cellU h.x1 hb, cellU h.x2 hb, cellU h.x3 hb, h.r.keep hb, bl_trans h.below hb⟩
theorem ChJ.fin {w : World} {k n : Int} {s : ByteArray} {kind k' n' : Int} {s' : ByteArray} {u : World} (h : ChJ w k n s kind k' n' s' u) (y0 y1 y2 : Value) : Below w.heap.size w (((u.setCell ⟨w.heap.size + 1 + 1, 0, none⟩ y0).setCell ⟨w.heap.size + 1 + 1, 1, none⟩ y1).setCell ⟨w.heap.size + 1 + 1, 2, none⟩ y2) :=
  bl_set1 (bl_set1 (bl_set1 h.below _ 0 (by omega) y0) _ 1 (by omega) y1) _ 2 (by omega) y2
theorem chj_new (w : World) (k n : Int) (s : ByteArray) (kind k' n' : Int) (s' : ByteArray) : ChJ w k n s kind k' n' s' (((w.alloc (.cells #[.int .i64 k, .int .i64 n, .string s] 55)).alloc (.cells #[.int .i64 kind, .int .i64 k', .int .i64 n', .string s'] 62)).alloc (.cells #[.int .i64 0, .int .i64 0, .string ⟨#[]⟩] 55)) := by
  have s1 : (w.alloc (.cells #[.int .i64 k, .int .i64 n, .string s] 55)).heap.size = w.heap.size + 1 := by simp
  have s2 : ((w.alloc (.cells #[.int .i64 k, .int .i64 n, .string s] 55)).alloc (.cells #[.int .i64 kind, .int .i64 k', .int .i64 n', .string s'] 62)).heap.size = w.heap.size + 1 + 1 := by simp
  have bb : ∀ (v : World) (a : Obj), Below v.heap.size v (v.alloc a) := fun v a => bl_alloc (Below.refl _ _) _
  refine ⟨(((Box3.new w _ _ _ _).alloc _).alloc _), cellU ?_ (bb _ _), cellU ?_ (bb _ _), cellU ?_ (bb _ _), cellU ?_ (bb _ _), ?_, bl_alloc (bl_alloc (bl_alloc (Below.refl _ _) _) _) _⟩
  · rw [← s1]; simp
  · rw [← s1]; simp
  · rw [← s1]; simp
  · rw [← s1]; simp
  · rw [← s2]; exact Box3.new _ _ _ _ _
set_option maxRecDepth 100000 in
set_option maxHeartbeats 2000000 in
theorem implChanged_any (k n : Int) (s : ByteArray) (kind k' n' : Int) (s' : ByteArray) (w : World) (hs : s.size ≤ maxLen) (hs' : s'.size ≤ maxLen) (hk : (Lit.int .i64 kind).wf = true) :
    Calls Try.prog 111 #[.agg #[.int .i64 k, .int .i64 n, .string s], .agg #[.int .i64 kind, .int .i64 k', .int .i64 n', .string s']] w fun e w' => ChP (changedM k n s kind k' n' s') e ∧ Below w.heap.size w w' := by
  have HV0 := hidOf (chj_new w k n s kind k' n' s')
  have HK := hidOf hk
  clear hk
  go_enter Try.func111, Try.ntmps111
  go_wp2_with fail
  refine (body_two k n s _ hs).mono ?_
  rintro e w1 ⟨⟨v1, rfl, hv1⟩, hb1⟩
  have HE1 := hidOf hv1
  have V1 := HV0.out.keep hb1
  obtain ⟨_, m0, m1, m2, mf⟩ := id V1.m
  have x0 := V1.x0
  have x1 := V1.x1
  have x2 := V1.x2
  have x3 := V1.x3
  obtain ⟨_, r0, r1, r2, rf⟩ := id V1.r
  have HV1 := hidOf V1
  clear V1 hb1 HV0 hv1
  go_wp2_with fail
  refine (body_two k' n' s' _ hs').mono ?_
  rintro e w2 ⟨⟨v2, rfl, hv2⟩, hb2⟩
  have HE2 := hidOf hv2
  have V2 := HV1.out.keep hb2
  clear m0 m1 m2 mf x0 x1 x2 x3 r0 r1 r2 rf
  have x0 := V2.x0
  have HV2 := hidOf V2
  clear V2 hb2 HV1 hv2
  go_wp2_with fail
  first | (go_region_with (first | (go_at_call 156; refine (changes_any _).mono ?_; rintro e w3 ⟨mb, mm, rfl, hmap, hb3⟩; have V3 := HV2.out.keep ((Below.refl _ _).drew.trans hb3); obtain ⟨v3, b3, hlook, hc3⟩ := tab_any k n s k' n' s' w3 mb mm kind hmap HK.out; have x0' := V3.x0; have HV3 := hidOf V3; have HC3 := hidOf hc3; clear V3 hc3 hb3 hmap))) | fail
  all_goals
    clear HV2 x0
    obtain ⟨_, r0, r1, r2, rf⟩ := id HV3.out.r
    cases h0 : okB k n s
    · have HR := hidOf (ch_no1 (kind := kind) (k' := k') (n' := n') (s' := s') h0)
      have HF := hidOf (HV3.out.fin (.int .i64 0) (.int .i64 0) (.string ⟨#[]⟩))
      go_wp2
      refine bodyPost_ret (v := .tuple #[.agg #[.int .i64 0, .int .i64 0, .string ⟨#[]⟩], .bool false]) (by simp [results, Try.results111, go_sem, r0, r1, r2]) rfl ?_
      exact ⟨by unfold ChP; rw [HR.out]; rfl, HF.out⟩
    cases h1 : okB k' n' s'
    · have HR := hidOf (ch_no2 (kind := kind) h0 h1)
      have HF := hidOf (HV3.out.fin (.int .i64 0) (.int .i64 0) (.string ⟨#[]⟩))
      go_wp2
      refine bodyPost_ret (v := .tuple #[.agg #[.int .i64 0, .int .i64 0, .string ⟨#[]⟩], .bool false]) (by simp [results, Try.results111, go_sem, r0, r1, r2]) rfl ?_
      exact ⟨by unfold ChP; rw [HR.out]; rfl, HF.out⟩
    have HO := hidOf (And.intro h0 h1)
    rcases HC3.out with ⟨rfl, hn⟩ | ⟨rfl, f, rfl, hcf, hf⟩
    · have HR := hidOf (ch_none h0 h1 hn)
      have HF := hidOf (HV3.out.fin (.int .i64 0) (.int .i64 0) (.string ⟨#[]⟩))
      clear hn
      go_wp2
      refine bodyPost_ret (v := .tuple #[.agg #[.int .i64 0, .int .i64 0, .string ⟨#[]⟩], .bool false]) (by simp [results, Try.results111, go_sem, r0, r1, r2]) rfl ?_
      exact ⟨by unfold ChP; rw [HR.out]; rfl, HF.out⟩
    · have HFf := hidOf (fun u => hf u h0 h1)
      have e1 := HE1.out h0
      have e2 := HE2.out h1
      subst e1 e2
      clear hf HE1 HE2
      go_wp2_with fail
      refine (HFf.out _).mono ?_
      rintro e w4 ⟨ha, hb4⟩
      have V4 := HV3.out.keep hb4
      clear r0 r1 r2 rf x0' HFf HC3 hcf
      obtain ⟨_, r0, r1, r2, rf⟩ := id V4.r
      have HV4 := hidOf V4
      clear V4 hb4 HV3
      rcases ha with ⟨hr, v4, rfl⟩ | ⟨b, hr, rfl⟩ | ⟨c, hc, hr, rfl⟩
      · have HR := hidOf (ch_none HO.out.1 HO.out.2 hr)
        have HF := hidOf (HV4.out.fin (.int .i64 0) (.int .i64 0) (.string ⟨#[]⟩))
        clear hr
        go_wp2
        refine bodyPost_ret (v := .tuple #[.agg #[.int .i64 0, .int .i64 0, .string ⟨#[]⟩], .bool false]) (by simp [results, Try.results111, go_sem, r0, r1, r2]) rfl ?_
        exact ⟨by unfold ChP; rw [HR.out]; rfl, HF.out⟩
      · have mr := meth_right_num b
        have mm := meth_msg_num b
        have HRw := hidOf (ch_some HO.out.1 HO.out.2 hr)
        clear hr
        go_wp2_with fail
        refine (right_num b _).mono ?_
        rintro e w5 ⟨rfl, rfl⟩
        cases h9 : okNum b
        · have HR := hidOf (HRw.out.trans (if_neg (by rw [okB_num, h9]; simp)))
          have HF := hidOf (HV4.out.fin (.int .i64 0) (.int .i64 0) (.string ⟨#[]⟩))
          go_wp2
          refine bodyPost_ret (v := .tuple #[.agg #[.int .i64 0, .int .i64 0, .string ⟨#[]⟩], .bool false]) (by simp [results, Try.results111, go_sem, r0, r1, r2]) rfl ?_
          exact ⟨by unfold ChP; rw [HR.out]; rfl, HF.out⟩
        · have HR := hidOf (HRw.out.trans (if_pos (by rw [okB_num, h9])))
          go_wp2_with fail
          refine (msg_num b _).mono ?_
          rintro e w6 ⟨rfl, hw6⟩
          have V6 := HV4.out.keep (hw6 ▸ bl_alloc (Below.refl _ _) _)
          clear r0 r1 r2 rf hw6
          obtain ⟨_, r0, r1, r2, rf⟩ := id V6.r
          have HF := hidOf (V6.fin (.int .i64 1) (.int .i64 b) (.string ⟨#[]⟩))
          clear V6
          go_wp2
          refine bodyPost_ret (v := .tuple #[.agg #[.int .i64 1, .int .i64 b, .string ⟨#[]⟩], .bool true]) (by simp [results, Try.results111, go_sem, r0, r1, r2]) rfl ?_
          exact ⟨by unfold ChP; rw [HR.out], HF.out⟩
      · have mr := meth_right_text c
        have mm := meth_msg_text c
        have HRw := hidOf (ch_some HO.out.1 HO.out.2 hr)
        clear hr
        go_wp2_with fail
        refine (right_text c _ hc).mono ?_
        rintro e w5 ⟨rfl, rfl⟩
        cases h9 : plainB c
        · have HR := hidOf (HRw.out.trans (if_neg (by rw [okB_txt, h9]; simp)))
          have HF := hidOf (HV4.out.fin (.int .i64 0) (.int .i64 0) (.string ⟨#[]⟩))
          go_wp2
          refine bodyPost_ret (v := .tuple #[.agg #[.int .i64 0, .int .i64 0, .string ⟨#[]⟩], .bool false]) (by simp [results, Try.results111, go_sem, r0, r1, r2]) rfl ?_
          exact ⟨by unfold ChP; rw [HR.out]; rfl, HF.out⟩
        · have HR := hidOf (HRw.out.trans (if_pos (by rw [okB_txt, h9])))
          go_wp2_with fail
          refine (msg_text c _).mono ?_
          rintro e w6 ⟨rfl, hw6⟩
          have V6 := HV4.out.keep (hw6 ▸ bl_alloc (Below.refl _ _) _)
          clear r0 r1 r2 rf hw6
          obtain ⟨_, r0, r1, r2, rf⟩ := id V6.r
          have HF := hidOf (V6.fin (.int .i64 2) (.int .i64 0) (.string c))
          clear V6
          go_wp2
          refine bodyPost_ret (v := .tuple #[.agg #[.int .i64 2, .int .i64 0, .string c], .bool true]) (by simp [results, Try.results111, go_sem, r0, r1, r2]) rfl ?_
          exact ⟨by unfold ChP; rw [HR.out], HF.out⟩
end Go.Proofs.Ytbhdjcggcgddfaa
namespace Go.Proofs.Ytbhdjcggcgddfaa
open Go.RowKit Pl Il

/-- What is answered once the change is known. -/
def upTo (x : Ct) : Int × Int × ByteArray × Bool → Ct × List Int × Int
  | (a, b, c, ok) => if ok = false then (x, [], 1) else if x.ve = 1000000000 ∨ 32 < x.ln.length + x.gs.length then (x, [], 2) else ({ x with kd := a, nu := b, tx := c, ve := x.ve + 1, ln := [], gs := x.gs ++ x.ln }, x.ln, 0)
def updateM (x : Ct) (kind k n : Int) (s : ByteArray) : Ct × List Int × Int :=
  if okC x = false then (x, [], 1) else if x.cl = true then (x, [], 6) else upTo x (changedM x.kd x.nu x.tx kind k n s)
section
variable {x : Ct} {kind k n : Int} {s : ByteArray} {a b : Int} {c : ByteArray}
theorem up_bad (h : okC x = false) : updateM x kind k n s = (x, [], 1) := by unfold updateM; rw [if_pos h]
theorem up_over (h : okC x = true) (hc : x.cl = true) : updateM x kind k n s = (x, [], 6) := by unfold updateM; rw [if_neg (by rw [h]; simp), if_pos hc]
theorem up_to (h : okC x = true) (hc : x.cl = false) : updateM x kind k n s = upTo x (changedM x.kd x.nu x.tx kind k n s) := by unfold updateM; rw [if_neg (by rw [h]; simp), if_neg (by rw [hc]; simp)]
theorem up_no (h : okC x = true) (hc : x.cl = false) (hm : changedM x.kd x.nu x.tx kind k n s = (a, b, c, false)) : updateM x kind k n s = (x, [], 1) := by rw [up_to h hc, hm]; unfold upTo; simp
theorem up_full (h : okC x = true) (hc : x.cl = false) (hm : changedM x.kd x.nu x.tx kind k n s = (a, b, c, true)) (hf : x.ve = 1000000000 ∨ 32 < x.ln.length + x.gs.length) : updateM x kind k n s = (x, [], 2) := by rw [up_to h hc, hm]; unfold upTo; simp [hf]
theorem up_ok (h : okC x = true) (hc : x.cl = false) (hm : changedM x.kd x.nu x.tx kind k n s = (a, b, c, true)) (hf : ¬ (x.ve = 1000000000 ∨ 32 < x.ln.length + x.gs.length)) : updateM x kind k n s = ({ x with kd := a, nu := b, tx := c, ve := x.ve + 1, ln := [], gs := x.gs ++ x.ln }, x.ln, 0) := by rw [up_to h hc, hm]; unfold upTo; simp only [if_neg hf]; simp
end
theorem update_len (x : Ct) (kind k n : Int) (s : ByteArray) : (updateM x kind k n s).1.ln.length ≤ x.ln.length + x.gs.length + 1 ∧ (updateM x kind k n s).1.gs.length ≤ x.ln.length + x.gs.length + 1 ∧ (updateM x kind k n s).2.1.length ≤ x.ln.length + 1 := by
  unfold updateM upTo
  repeat' split
  all_goals (refine ⟨?_, ?_, ?_⟩ <;> simp <;> omega)
theorem ch_right {k n : Int} {s : ByteArray} {kind k' n' : Int} {s' : ByteArray} {a b : Int} {c : ByteArray} (h : changedM k n s kind k' n' s' = (a, b, c, true)) : okB a b c = true := by
  unfold changedM at h
  split at h
  · cases h
  · split at h
    · cases h
    · split at h
      · cases h
      · rename_i h0 _
        split at h
        · rename_i ho
          cases h
          exact ho
        · cases h
end Go.Proofs.Ytbhdjcggcgddfaa
namespace Go.Proofs.Ytbhdjcggcgddfaa
open Go.RowKit Pl Il

structure Box4 (N : Nat) (v0 v1 v2 v3 : Value) (w : World) : Prop where
  lt : N < w.heap.size
  c0 : w.cell? ⟨N, 0, none⟩ = some v0
  c1 : w.cell? ⟨N, 1, none⟩ = some v1
  c2 : w.cell? ⟨N, 2, none⟩ = some v2
  c3 : w.cell? ⟨N, 3, none⟩ = some v3
  fr : ∀ o, w.frozen? ⟨N, o, none⟩ = false
section
variable {N : Nat} {v0 v1 v2 v3 : Value} {w u : World}
theorem Box4.new (w : World) (v0 v1 v2 v3 : Value) (t : TypeId) : Box4 w.heap.size v0 v1 v2 v3 (w.alloc (.cells #[v0, v1, v2, v3] t)) :=
  ⟨by simp, by simp, by simp, by simp, by simp, fun o => by simp [go_sem]⟩
theorem Box4.of_block (h : Box4 N v0 v1 v2 v3 w) (key : u.heap[N]? = w.heap[N]?) (hs : N < u.heap.size) : Box4 N v0 v1 v2 v3 u :=
  ⟨hs, by rw [← h.c0]; exact World.cell?_of_block key, by rw [← h.c1]; exact World.cell?_of_block key, by rw [← h.c2]; exact World.cell?_of_block key, by rw [← h.c3]; exact World.cell?_of_block key, fun k => by rw [← h.fr k]; exact World.frozen?_of_block key⟩
theorem Box4.keep (h : Box4 N v0 v1 v2 v3 w) (hb : Below w.heap.size w u) : Box4 N v0 v1 v2 v3 u := h.of_block (hb.block N h.lt) (Nat.lt_of_lt_of_le h.lt hb.size)
theorem Box4.alloc (h : Box4 N v0 v1 v2 v3 w) (o : Obj) : Box4 N v0 v1 v2 v3 (w.alloc o) := h.keep (bl_alloc (Below.refl _ _) o)
theorem Box4.far (h : Box4 N v0 v1 v2 v3 w) (M o : Nat) (hM : N ≠ M) (y : Value) : Box4 N v0 v1 v2 v3 (w.setCell ⟨M, o, none⟩ y) := h.of_block (Below.heap_setCell w ⟨M, o, none⟩ y N hM) (by simpa using h.lt)
theorem Box4.set0 (h : Box4 N v0 v1 v2 v3 w) (y : Value) : Box4 N y v1 v2 v3 (w.setCell ⟨N, 0, none⟩ y) :=
  ⟨by simpa using h.lt, World.cell?_setCell_same _ _ _ h.c0, by rw [World.cell?_setCell_other _ _ _ _ (by simp)]; exact h.c1, by rw [World.cell?_setCell_other _ _ _ _ (by simp)]; exact h.c2, by rw [World.cell?_setCell_other _ _ _ _ (by simp)]; exact h.c3, fun k => by simpa using h.fr k⟩
end
theorem szChange_any (kind k n l : Int) (s : ByteArray) (w : World) (hm : s.size ≤ maxLen) (h0 : 0 ≤ l) (h1 : l ≤ 1048576) :
    Calls Try.prog 71 #[.agg #[.int .i64 kind, .int .i64 k, .int .i64 n, .string s], .int .i64 l] w fun e w' => (∃ j : Int, e = .returned (.int .i64 j)) ∧ Below w.heap.size w w' := by
  have hb : Below w.heap.size w (w.alloc (.cells #[.int .i64 kind, .int .i64 k, .int .i64 n, .string s] 93)) := bl_alloc (Below.refl _ _) _
  go_enter Try.func71, Try.ntmps71
  go_wp2_with fail
  refine (szMsg_any k n l s _ hm h0 h1).mono ?_
  rintro e w0 ⟨hk, hb0⟩
  have hB := bl_trans hb hb0
  obtain ⟨j, rfl⟩ : ∃ j : Int, e = .returned (.int .i64 j) := by
    rcases hk with ⟨_, rfl⟩ | ⟨_, rfl⟩ <;> exact ⟨_, rfl⟩
  clear hk hb0 hb
  by_cases hj : j < 0
  · go_wp2
    go_ret
    exact ⟨⟨_, rfl⟩, hB⟩
  · go_wp2
    go_ret
    exact ⟨⟨_, rfl⟩, hB⟩
theorem toChange_any (kind k n : Int) (s : ByteArray) (w : World) :
    Calls Try.prog 74 #[.agg #[.int .i64 kind, .int .i64 k, .int .i64 n, .string s]] w fun e w' => e = .returned (.agg #[.int .i64 kind, .int .i64 k, .int .i64 n, .string s]) ∧ Below w.heap.size w w' := by
  generalize hW0 : w.alloc (.cells #[.int .i64 kind, .int .i64 k, .int .i64 n, .string s] 93) = W0
  generalize hW1 : W0.alloc (.cells #[.int .i64 0, .int .i64 0, .int .i64 0, .string ⟨#[]⟩] 62) = W1
  generalize hW2 : W1.alloc (.cells #[.int .i64 kind, .int .i64 0, .int .i64 0, .string ⟨#[]⟩] 62) = W2
  have b0 : Below w.heap.size w W0 := by subst hW0; exact bl_alloc (Below.refl _ _) _
  have b1 : Below w.heap.size w W1 := by subst hW1; exact bl_alloc b0 _
  have b2 : Below w.heap.size w W2 := by subst hW2; exact bl_alloc b1 _
  have s0 : W0.heap.size = w.heap.size + 1 := by subst hW0; simp
  have s1 : W1.heap.size = w.heap.size + 1 + 1 := by subst hW1; simp [s0]
  have x0 : Box4 w.heap.size (.int .i64 kind) (.int .i64 k) (.int .i64 n) (.string s) W2 := by subst hW2 hW1 hW0; exact ((Box4.new w _ _ _ _ _).alloc _).alloc _
  have x1 : Box4 (w.heap.size + 1) (.int .i64 0) (.int .i64 0) (.int .i64 0) (.string ⟨#[]⟩) W2 := by subst hW2 hW1; rw [← s0]; exact (Box4.new W0 _ _ _ _ _).alloc _
  have x2 : Box4 (w.heap.size + 1 + 1) (.int .i64 kind) (.int .i64 0) (.int .i64 0) (.string ⟨#[]⟩) W2 := by subst hW2; rw [← s1]; exact Box4.new W1 _ _ _ _ _
  have HS := hidOf (And.intro x0 (And.intro x1 (And.intro x2 b2)))
  clear x0 x1 x2 b0 b1 b2 s0 s1
  subst hW2 hW1 hW0
  go_enter Try.func74, Try.ntmps74
  go_wp2_with fail
  refine (toMsg_any k n s _).mono ?_
  rintro e w0 ⟨rfl, hb0⟩
  obtain ⟨y0, y1, y2, B2⟩ := HS.out
  obtain ⟨_, p0, p1, p2, p3, pf⟩ := y1.keep hb0
  obtain ⟨_, q0, q1, q2, q3, qf⟩ := y2.keep hb0
  have HB := hidOf (bl_trans B2 hb0)
  clear y0 y1 y2 B2 hb0 HS
  go_wp2
  refine bodyPost_ret (v := .agg #[.int .i64 kind, .int .i64 k, .int .i64 n, .string s]) (by simp [results, Try.results74, go_sem, p0, p1, p2, p3]) rfl ⟨rfl, ?_⟩
  exact (bl_set1 (bl_set1 (bl_set1 (bl_set1 (bl_set1 (bl_set1 (bl_set1 HB.out _ 1 (by omega) _) _ 2 (by omega) _) _ 3 (by omega) _) _ 0 (by omega) _) _ 1 (by omega) _) _ 2 (by omega) _) _ 3 (by omega) _)
end Go.Proofs.Ytbhdjcggcgddfaa
namespace Go.Proofs.Ytbhdjcggcgddfaa
open Go.RowKit Pl Il

theorem Box4.below {N : Nat} {v0 v1 v2 v3 : Value} {w u : World} {B : Nat} (h : Box4 N v0 v1 v2 v3 w) (hb : Below B w u) (hN : N < B) : Box4 N v0 v1 v2 v3 u := h.of_block (hb.block N hN) (Nat.lt_of_lt_of_le h.lt hb.size)
/-- The argument's variable, the answer's. -/
structure DCtx (w : World) (A : Na) (x : Ct) (q : Int × Int × Int × ByteArray) (u : World) : Prop where
  box0 : CBox w.heap.size A x u
  chg : Box4 (w.heap.size + 1) (.int .i64 q.1) (.int .i64 q.2.1) (.int .i64 q.2.2.1) (.string q.2.2.2) u
  box1 : CBox (w.heap.size + 1 + 1) Na.zero Ct.zero u
  nin : CIn w A x
  below : Below w.heap.size w u
  sz : w.heap.size + 3 ≤ u.heap.size
section
variable {w : World} {A : Na} {x : Ct} {q : Int × Int × Int × ByteArray} {u u' : World}
theorem DCtx.keep {B : Nat} (h : DCtx w A x q u) (hb : Below B u u') (hB : w.heap.size + 3 ≤ B) : DCtx w A x q u' :=
  ⟨h.box0.below hb (by omega), h.chg.below hb (by omega), h.box1.below hb (by omega), h.nin, h.below.trans (hb.mono (by omega)), Nat.le_trans h.sz hb.size⟩
theorem DCtx.kp (h : DCtx w A x q u) (hb : Below u.heap.size u u') : DCtx w A x q u' := h.keep hb h.sz
theorem DCtx.ninX (h : DCtx w A x q u) : CIn u A x := h.nin.keep h.below
theorem dctx_new (q : Int × Int × Int × ByteArray) (hI : CIn w A x) : DCtx w A x q (((w.alloc (.cells #[.int .i64 x.kd, .int .i64 x.nu, .string x.tx, .int .i64 x.ve, .bool x.cl, .slice A.a A.n A.c, .slice A.a' A.n' A.c'] 58)).alloc (.cells #[.int .i64 q.1, .int .i64 q.2.1, .int .i64 q.2.2.1, .string q.2.2.2] 62)).alloc (.cells #[.int .i64 0, .int .i64 0, .string ⟨#[]⟩, .int .i64 0, .bool false, .slice none 0 0, .slice none 0 0] 58)) := by
  have s0 : (w.alloc (.cells #[.int .i64 x.kd, .int .i64 x.nu, .string x.tx, .int .i64 x.ve, .bool x.cl, .slice A.a A.n A.c, .slice A.a' A.n' A.c'] 58)).heap.size = w.heap.size + 1 := by simp
  have s1 : ((w.alloc (.cells #[.int .i64 x.kd, .int .i64 x.nu, .string x.tx, .int .i64 x.ve, .bool x.cl, .slice A.a A.n A.c, .slice A.a' A.n' A.c'] 58)).alloc (.cells #[.int .i64 q.1, .int .i64 q.2.1, .int .i64 q.2.2.1, .string q.2.2.2] 62)).heap.size = w.heap.size + 1 + 1 := by simp
  refine ⟨((CBox.new w A x _).alloc _).alloc _, ?_, by rw [← s1]; exact CBox.newZ _ _, hI, bl_alloc (bl_alloc (bl_alloc (Below.refl _ _) _) _) _, by simp⟩
  have h := (Box4.new (w.alloc (.cells #[.int .i64 x.kd, .int .i64 x.nu, .string x.tx, .int .i64 x.ve, .bool x.cl, .slice A.a A.n A.c, .slice A.a' A.n' A.c'] 58)) (.int .i64 q.1) (.int .i64 q.2.1) (.int .i64 q.2.2.1) (.string q.2.2.2) 62).alloc (.cells #[.int .i64 0, .int .i64 0, .string ⟨#[]⟩, .int .i64 0, .bool false, .slice none 0 0, .slice none 0 0] 58)
  rw [s0] at h
  exact h
theorem dst_fin {A' : Na} {y : Ct} (hC : DCtx w A x q u) (hR : Rows2 (w.heap.size + 3) u A' y.ln y.gs) (ht : y.tx.size ≤ maxLen) :
    COwn w.heap.size (((((((u.setCell ⟨w.heap.size + 1 + 1, 0, none⟩ (.int .i64 y.kd)).setCell ⟨w.heap.size + 1 + 1, 1, none⟩ (.int .i64 y.nu)).setCell ⟨w.heap.size + 1 + 1, 2, none⟩ (.string y.tx)).setCell ⟨w.heap.size + 1 + 1, 3, none⟩ (.int .i64 y.ve)).setCell ⟨w.heap.size + 1 + 1, 4, none⟩ (.bool y.cl)).setCell ⟨w.heap.size + 1 + 1, 5, none⟩ (.slice A'.a A'.n A'.c)).setCell ⟨w.heap.size + 1 + 1, 6, none⟩ (.slice A'.a' A'.n' A'.c')) A' y ∧ A'.ok ∧ Below w.heap.size w (((((((u.setCell ⟨w.heap.size + 1 + 1, 0, none⟩ (.int .i64 y.kd)).setCell ⟨w.heap.size + 1 + 1, 1, none⟩ (.int .i64 y.nu)).setCell ⟨w.heap.size + 1 + 1, 2, none⟩ (.string y.tx)).setCell ⟨w.heap.size + 1 + 1, 3, none⟩ (.int .i64 y.ve)).setCell ⟨w.heap.size + 1 + 1, 4, none⟩ (.bool y.cl)).setCell ⟨w.heap.size + 1 + 1, 5, none⟩ (.slice A'.a A'.n A'.c)).setCell ⟨w.heap.size + 1 + 1, 6, none⟩ (.slice A'.a' A'.n' A'.c')) :=
  ⟨((hR.cown ht).farA (w.heap.size + 1 + 1) (by omega) _ _ _ _ _ _ _).mono (by omega), hR.ok, bl_sC hC.below (w.heap.size + 1 + 1) (by omega) _ _ _ _ _ _ _⟩
theorem dst_finT {A' : Na} {y : Ct} {a : Option Addr} {m : Nat} {l : List Int} (hC : DCtx w A x q u) (hR : Rows2 (w.heap.size + 3) u A' y.ln y.gs) (ht : y.tx.size ≤ maxLen) (hL : Il.OwnAt (w.heap.size + 3) u a m l) :
    COwn w.heap.size (((((((u.setCell ⟨w.heap.size + 1 + 1, 0, none⟩ (.int .i64 y.kd)).setCell ⟨w.heap.size + 1 + 1, 1, none⟩ (.int .i64 y.nu)).setCell ⟨w.heap.size + 1 + 1, 2, none⟩ (.string y.tx)).setCell ⟨w.heap.size + 1 + 1, 3, none⟩ (.int .i64 y.ve)).setCell ⟨w.heap.size + 1 + 1, 4, none⟩ (.bool y.cl)).setCell ⟨w.heap.size + 1 + 1, 5, none⟩ (.slice A'.a A'.n A'.c)).setCell ⟨w.heap.size + 1 + 1, 6, none⟩ (.slice A'.a' A'.n' A'.c')) A' y ∧ A'.ok ∧ Il.OwnAt w.heap.size (((((((u.setCell ⟨w.heap.size + 1 + 1, 0, none⟩ (.int .i64 y.kd)).setCell ⟨w.heap.size + 1 + 1, 1, none⟩ (.int .i64 y.nu)).setCell ⟨w.heap.size + 1 + 1, 2, none⟩ (.string y.tx)).setCell ⟨w.heap.size + 1 + 1, 3, none⟩ (.int .i64 y.ve)).setCell ⟨w.heap.size + 1 + 1, 4, none⟩ (.bool y.cl)).setCell ⟨w.heap.size + 1 + 1, 5, none⟩ (.slice A'.a A'.n A'.c)).setCell ⟨w.heap.size + 1 + 1, 6, none⟩ (.slice A'.a' A'.n' A'.c')) a m l ∧ Below w.heap.size w (((((((u.setCell ⟨w.heap.size + 1 + 1, 0, none⟩ (.int .i64 y.kd)).setCell ⟨w.heap.size + 1 + 1, 1, none⟩ (.int .i64 y.nu)).setCell ⟨w.heap.size + 1 + 1, 2, none⟩ (.string y.tx)).setCell ⟨w.heap.size + 1 + 1, 3, none⟩ (.int .i64 y.ve)).setCell ⟨w.heap.size + 1 + 1, 4, none⟩ (.bool y.cl)).setCell ⟨w.heap.size + 1 + 1, 5, none⟩ (.slice A'.a A'.n A'.c)).setCell ⟨w.heap.size + 1 + 1, 6, none⟩ (.slice A'.a' A'.n' A'.c')) :=
  ⟨(dst_fin hC hR ht).1, hR.ok, ((((((((hL.far (w.heap.size + 1 + 1) 0 (by omega) _).far (w.heap.size + 1 + 1) 1 (by omega) _).far (w.heap.size + 1 + 1) 2 (by omega) _).far (w.heap.size + 1 + 1) 3 (by omega) _).far (w.heap.size + 1 + 1) 4 (by omega) _).far (w.heap.size + 1 + 1) 5 (by omega) _).far (w.heap.size + 1 + 1) 6 (by omega) _).mono (by omega)), bl_sC hC.below (w.heap.size + 1 + 1) (by omega) _ _ _ _ _ _ _⟩
end
end Go.Proofs.Ytbhdjcggcgddfaa
