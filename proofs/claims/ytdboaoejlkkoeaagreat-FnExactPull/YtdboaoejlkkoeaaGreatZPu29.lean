/-
  The program's tests: function values stand for tests; the program's Pa
-/
import Derived.Test.YtdboaoejlkkoeaaGreatZPu28
namespace Go.Proofs.YtdboaoejlkkoeaaGreat
open Go.RowKit Pl Il
theorem two_blk (u : World) (o1 o2 : Obj) : ((u.alloc o1).alloc o2).heap[u.heap.size]? = some o1 ∧ ((u.alloc o1).alloc o2).heap[u.heap.size + 1]? = some o2 := by
  constructor
  · show ((u.heap.push o1).push o2)[u.heap.size]? = some o1
    rw [Array.getElem?_push, if_neg (by simp)]
    simp
  · show ((u.heap.push o1).push o2)[u.heap.size + 1]? = some o2
    rw [Array.getElem?_push, if_pos (by simp)]
theorem blk_cells {W : World} {c : Nat} {cs : Array Value} {t : TypeId} (h : W.heap[c]? = some (.cells cs t (0, 0))) (o : Nat) : W.cell? ⟨c, o, none⟩ = cs[o]? := by simp [World.cell?, h]
theorem two_lt (u : World) (o1 o2 : Obj) : ∀ j, j ∈ [u.heap.size, u.heap.size + 1] → j < ((u.alloc o1).alloc o2).heap.size := fun j hj => by
  simp at hj
  simp
  omega
theorem two_ge (u : World) : ∀ j, j ∈ [u.heap.size, u.heap.size + 1] → u.heap.size ≤ j := fun j hj => by
  simp at hj
  omega
theorem leaf_2 (n : Int) (s : ByteArray) (u : World) : RepP [u.heap.size, u.heap.size + 1] ((u.alloc (tmO 2 n s)).alloc (.cells #[.func (.func 198) #[] #[]] 106)) (.func (.func 207) #[] #[.pointer (some ⟨u.heap.size + 1, 0, none⟩)]) (leafP (2, n, s)) := by
  refine ⟨two_lt u _ _, _, _, rfl, fun _ _ => by kernel_rfl, ?_⟩
  · intro W b _ _ hF
    have hcb : W.heap[u.heap.size + 1]? = some (.cells #[.func (.func 198) #[] #[]] 106) := (hF _ (by simp)).trans (two_blk u _ _).2
    have hcc : W.cell? ⟨u.heap.size + 1, 0, none⟩ = some (.func (.func 198) #[] #[]) := by rw [blk_cells hcb]; rfl
    show Calls _ _ #[bdV b, .pointer (some ⟨u.heap.size + 1, 0, none⟩)] _ _
    rcases b with m | r
    · exact (num_2 _ m W hcc).mono fun e W' ⟨h1, h2⟩ => ⟨by rw [h1]; simp [leafP], h2⟩
    · exact (num_txt _ r W).mono fun e W' ⟨h1, h2⟩ => ⟨by rw [h1]; simp [leafP], h2⟩
theorem leaf_3 (n : Int) (s : ByteArray) (u : World) : RepP [u.heap.size, u.heap.size + 1] ((u.alloc (tmO 3 n s)).alloc (.cells #[.func (.func 200) #[] #[]] 104)) (.func (.func 208) #[] #[.pointer (some ⟨u.heap.size + 1, 0, none⟩)]) (leafP (3, n, s)) := by
  refine ⟨two_lt u _ _, _, _, rfl, fun _ _ => by kernel_rfl, ?_⟩
  · intro W b _ _ hF
    have hcb : W.heap[u.heap.size + 1]? = some (.cells #[.func (.func 200) #[] #[]] 104) := (hF _ (by simp)).trans (two_blk u _ _).2
    have hcc : W.cell? ⟨u.heap.size + 1, 0, none⟩ = some (.func (.func 200) #[] #[]) := by rw [blk_cells hcb]; rfl
    show Calls _ _ #[bdV b, .pointer (some ⟨u.heap.size + 1, 0, none⟩)] _ _
    rcases b with m | r
    · exact (txt_num _ m W).mono fun e W' ⟨h1, h2⟩ => ⟨by rw [h1]; simp [leafP], h2⟩
    · exact (txt_3 _ r W hcc).mono fun e W' ⟨h1, h2⟩ => ⟨by rw [h1]; simp [leafP], h2⟩
theorem leaf_4 (n : Int) (s : ByteArray) (u : World) : RepP [u.heap.size, u.heap.size + 1] ((u.alloc (tmO 4 n s)).alloc (.cells #[.func (.func 201) #[] #[.pointer (some ⟨u.heap.size, 0, none⟩)]] 106)) (.func (.func 207) #[] #[.pointer (some ⟨u.heap.size + 1, 0, none⟩)]) (leafP (4, n, s)) := by
  refine ⟨two_lt u _ _, _, _, rfl, fun _ _ => by kernel_rfl, ?_⟩
  · intro W b _ _ hF
    have hcb : W.heap[u.heap.size + 1]? = some (.cells #[.func (.func 201) #[] #[.pointer (some ⟨u.heap.size, 0, none⟩)]] 106) := (hF _ (by simp)).trans (two_blk u _ _).2
    have hcc : W.cell? ⟨u.heap.size + 1, 0, none⟩ = some (.func (.func 201) #[] #[.pointer (some ⟨u.heap.size, 0, none⟩)]) := by rw [blk_cells hcb]; rfl
    have hx : W.heap[u.heap.size]? = some (tmO 4 n s) := (hF _ (by simp)).trans (two_blk u _ _).1
    unfold tmO at hx
    have hxn : W.cell? ⟨u.heap.size, 1, none⟩ = some (.int .i64 n) := by rw [blk_cells hx]; rfl
    show Calls _ _ #[bdV b, .pointer (some ⟨u.heap.size + 1, 0, none⟩)] _ _
    rcases b with m | r
    · exact (num_4 _ _ m n W hcc hxn).mono fun e W' ⟨h1, h2⟩ => ⟨by rw [h1]; simp [leafP], h2⟩
    · exact (num_txt _ r W).mono fun e W' ⟨h1, h2⟩ => ⟨by rw [h1]; simp [leafP], h2⟩
theorem leaf_5 (n : Int) (s : ByteArray) (u : World) (hn : 1 ≤ n) : RepP [u.heap.size, u.heap.size + 1] ((u.alloc (tmO 5 n s)).alloc (.cells #[.func (.func 202) #[] #[.pointer (some ⟨u.heap.size, 0, none⟩)]] 106)) (.func (.func 207) #[] #[.pointer (some ⟨u.heap.size + 1, 0, none⟩)]) (leafP (5, n, s)) := by
  refine ⟨two_lt u _ _, _, _, rfl, fun _ _ => by kernel_rfl, ?_⟩
  · intro W b _ _ hF
    have hcb : W.heap[u.heap.size + 1]? = some (.cells #[.func (.func 202) #[] #[.pointer (some ⟨u.heap.size, 0, none⟩)]] 106) := (hF _ (by simp)).trans (two_blk u _ _).2
    have hcc : W.cell? ⟨u.heap.size + 1, 0, none⟩ = some (.func (.func 202) #[] #[.pointer (some ⟨u.heap.size, 0, none⟩)]) := by rw [blk_cells hcb]; rfl
    have hx : W.heap[u.heap.size]? = some (tmO 5 n s) := (hF _ (by simp)).trans (two_blk u _ _).1
    unfold tmO at hx
    have hxn : W.cell? ⟨u.heap.size, 1, none⟩ = some (.int .i64 n) := by rw [blk_cells hx]; rfl
    show Calls _ _ #[bdV b, .pointer (some ⟨u.heap.size + 1, 0, none⟩)] _ _
    rcases b with m | r
    · exact (num_5 _ _ m n W hn hcc hxn).mono fun e W' ⟨h1, h2⟩ => ⟨by rw [h1]; simp [leafP], h2⟩
    · exact (num_txt _ r W).mono fun e W' ⟨h1, h2⟩ => ⟨by rw [h1]; simp [leafP], h2⟩
theorem leaf_6 (n : Int) (s : ByteArray) (u : World) : RepP [u.heap.size, u.heap.size + 1] ((u.alloc (tmO 6 n s)).alloc (.cells #[.func (.func 203) #[] #[.pointer (some ⟨u.heap.size, 0, none⟩)]] 104)) (.func (.func 208) #[] #[.pointer (some ⟨u.heap.size + 1, 0, none⟩)]) (leafP (6, n, s)) := by
  refine ⟨two_lt u _ _, _, _, rfl, fun _ _ => by kernel_rfl, ?_⟩
  · intro W b _ _ hF
    have hcb : W.heap[u.heap.size + 1]? = some (.cells #[.func (.func 203) #[] #[.pointer (some ⟨u.heap.size, 0, none⟩)]] 104) := (hF _ (by simp)).trans (two_blk u _ _).2
    have hcc : W.cell? ⟨u.heap.size + 1, 0, none⟩ = some (.func (.func 203) #[] #[.pointer (some ⟨u.heap.size, 0, none⟩)]) := by rw [blk_cells hcb]; rfl
    have hx : W.heap[u.heap.size]? = some (tmO 6 n s) := (hF _ (by simp)).trans (two_blk u _ _).1
    unfold tmO at hx
    have hxs : W.cell? ⟨u.heap.size, 2, none⟩ = some (.string s) := by rw [blk_cells hx]; rfl
    show Calls _ _ #[bdV b, .pointer (some ⟨u.heap.size + 1, 0, none⟩)] _ _
    rcases b with m | r
    · exact (txt_num _ m W).mono fun e W' ⟨h1, h2⟩ => ⟨by rw [h1]; simp [leafP], h2⟩
    · exact (txt_6 _ _ r s W hcc hxs).mono fun e W' ⟨h1, h2⟩ => ⟨by rw [h1]; simp [leafP], h2⟩
theorem leaf_7 (n : Int) (s : ByteArray) (u : World) : RepP [u.heap.size, u.heap.size + 1] ((u.alloc (tmO 7 n s)).alloc (.cells #[.func (.func 205) #[] #[.pointer (some ⟨u.heap.size, 0, none⟩)]] 104)) (.func (.func 208) #[] #[.pointer (some ⟨u.heap.size + 1, 0, none⟩)]) (leafP (7, n, s)) := by
  refine ⟨two_lt u _ _, _, _, rfl, fun _ _ => by kernel_rfl, ?_⟩
  · intro W b hb hG hF
    have hcb : W.heap[u.heap.size + 1]? = some (.cells #[.func (.func 205) #[] #[.pointer (some ⟨u.heap.size, 0, none⟩)]] 104) := (hF _ (by simp)).trans (two_blk u _ _).2
    have hcc : W.cell? ⟨u.heap.size + 1, 0, none⟩ = some (.func (.func 205) #[] #[.pointer (some ⟨u.heap.size, 0, none⟩)]) := by rw [blk_cells hcb]; rfl
    have hx : W.heap[u.heap.size]? = some (tmO 7 n s) := (hF _ (by simp)).trans (two_blk u _ _).1
    unfold tmO at hx
    have hxs : W.cell? ⟨u.heap.size, 2, none⟩ = some (.string s) := by rw [blk_cells hx]; rfl
    show Calls _ _ #[bdV b, .pointer (some ⟨u.heap.size + 1, 0, none⟩)] _ _
    rcases b with m | r
    · exact (txt_num _ m W).mono fun e W' ⟨h1, h2⟩ => ⟨by rw [h1]; simp [leafP], h2⟩
    · exact (txt_7 _ _ r s W hb hG hcc hxs).mono fun e W' ⟨h1, h2⟩ => ⟨by rw [h1]; simp [leafP], h2⟩
theorem lt_of_blk {u W : World} {j : Nat} (h : W.heap[j]? = u.heap[j]?) (hj : j < u.heap.size) : j < W.heap.size := by
  rcases Nat.lt_or_ge j W.heap.size with k | k
  · exact k
  · rw [Array.getElem?_eq_none k, Array.getElem?_eq_getElem hj] at h; cases h
theorem rep_not {F : List Nat} {u : World} {v : Value} {p : Pd} (c : Nat) (hR : RepP F u v p) (hc : u.heap[c]? = some (.cells #[v] 185 (0, 0))) : RepP (c :: F) u (.func (.func 193) #[] #[.pointer (some ⟨c, 0, none⟩)]) (fun b => !(p b)) := by
  obtain ⟨hl, k, caps, rfl, hcf, hd⟩ := hR
  refine ⟨fun j hj => ?_, _, _, rfl, fun _ _ => by kernel_rfl, fun W b hb hG hF => ?_⟩
  · rcases List.mem_cons.1 hj with rfl | hj
    · exact (blk_cell hc).2.1
    · exact hl j hj
  have hcW : W.cell? ⟨c, 0, none⟩ = some (.func (.func k) #[] caps) := by rw [blk_cells ((hF c (by simp)).trans hc)]; rfl
  have HD := hidOf (hd W b hb hG (fun j hj => hF j (List.mem_cons_of_mem _ hj)))
  show Calls _ _ #[bdV b, .pointer (some ⟨c, 0, none⟩)] _ _
  generalize bdV b = y at HD
  clear hd hF hG hb hc hl
  go_enter Tryz.func193, Tryz.ntmps193
  go_wp2_with fail
  refine (HD.out).mono ?_
  rintro e W1 ⟨rfl, hb1⟩
  clear HD hcW
  go_wp2
  go_ret
  exact ⟨rfl, hb1⟩
theorem rep_and {F F' : List Nat} {u : World} {v v' : Value} {p p' : Pd} (c c' : Nat) (hR : RepP F u v p) (hR' : RepP F' u v' p') (hc : u.heap[c]? = some (.cells #[v] 185 (0, 0))) (hc' : u.heap[c']? = some (.cells #[v'] 185 (0, 0))) : RepP (c :: c' :: (F ++ F')) u (.func (.func 194) #[] #[.pointer (some ⟨c, 0, none⟩), .pointer (some ⟨c', 0, none⟩)]) (fun b => p b && p' b) := by
  obtain ⟨hl, k, caps, rfl, hcf, hd⟩ := hR
  obtain ⟨hl', k', caps', rfl, hcf', hd'⟩ := hR'
  refine ⟨fun j hj => ?_, _, _, rfl, fun _ _ => by kernel_rfl, fun W b hb hG hF => ?_⟩
  · rcases List.mem_cons.1 hj with rfl | hj
    · exact (blk_cell hc).2.1
    · rcases List.mem_cons.1 hj with rfl | hj
      · exact (blk_cell hc').2.1
      · rcases List.mem_append.1 hj with hj | hj
        · exact hl j hj
        · exact hl' j hj
  have hcW : W.cell? ⟨c, 0, none⟩ = some (.func (.func k) #[] caps) := by rw [blk_cells ((hF c (by simp)).trans hc)]; rfl
  have hcW' : W.cell? ⟨c', 0, none⟩ = some (.func (.func k') #[] caps') := by rw [blk_cells ((hF c' (by simp)).trans hc')]; rfl
  have HD := hidOf (hd W b hb hG (fun j hj => hF j (by simp [hj])))
  have HD' := hidOf (fun (W1 : World) (h1 : Below W.heap.size W W1) => hd' W1 b hb (hG.keep h1) (fun j hj => (h1.block j (lt_of_blk (hF j (by simp [hj])) (hl' j hj))).trans (hF j (by simp [hj]))))
  have HK := hidOf (fun (W1 : World) (h1 : Below W.heap.size W W1) => (cellH hcW' h1 : W1.cell? ⟨c', 0, none⟩ = some (.func (.func k') #[] caps')))
  show Calls _ _ #[bdV b, .pointer (some ⟨c, 0, none⟩), .pointer (some ⟨c', 0, none⟩)] _ _
  generalize bdV b = y at HD HD'
  clear hd hd' hF hG hb hc hc' hl hl' hcW'
  cases hz : p b
  all_goals rw [hz] at HD
  all_goals have Hz := hidOf hz
  all_goals clear hz
  · go_enter Tryz.func194, Tryz.ntmps194
    go_wp2_with fail
    refine (HD.out).mono ?_
    rintro e W1 ⟨rfl, hb1⟩
    clear HD HD' HK hcW
    go_wp2
    go_ret
    exact ⟨rbool (by simp [Hz.out]), hb1⟩
  · go_enter Tryz.func194, Tryz.ntmps194
    go_wp2_with fail
    refine (HD.out).mono ?_
    rintro e W1 ⟨rfl, hb1⟩
    have q1 := HK.out W1 hb1
    have HE := hidOf (HD'.out W1 hb1)
    have HB := hidOf hb1
    clear HD HD' HK hcW hb1
    go_wp2_with fail
    refine (HE.out).mono ?_
    rintro e W2 ⟨rfl, hb2⟩
    have HB2 := hidOf (bl_trans HB.out hb2)
    clear HE q1 hb2 HB
    go_wp2
    go_ret
    exact ⟨rbool (by simp [Hz.out]), HB2.out⟩
theorem rep_or {F F' : List Nat} {u : World} {v v' : Value} {p p' : Pd} (c c' : Nat) (hR : RepP F u v p) (hR' : RepP F' u v' p') (hc : u.heap[c]? = some (.cells #[v] 185 (0, 0))) (hc' : u.heap[c']? = some (.cells #[v'] 185 (0, 0))) : RepP (c :: c' :: (F ++ F')) u (.func (.func 195) #[] #[.pointer (some ⟨c, 0, none⟩), .pointer (some ⟨c', 0, none⟩)]) (fun b => p b || p' b) := by
  obtain ⟨hl, k, caps, rfl, hcf, hd⟩ := hR
  obtain ⟨hl', k', caps', rfl, hcf', hd'⟩ := hR'
  refine ⟨fun j hj => ?_, _, _, rfl, fun _ _ => by kernel_rfl, fun W b hb hG hF => ?_⟩
  · rcases List.mem_cons.1 hj with rfl | hj
    · exact (blk_cell hc).2.1
    · rcases List.mem_cons.1 hj with rfl | hj
      · exact (blk_cell hc').2.1
      · rcases List.mem_append.1 hj with hj | hj
        · exact hl j hj
        · exact hl' j hj
  have hcW : W.cell? ⟨c, 0, none⟩ = some (.func (.func k) #[] caps) := by rw [blk_cells ((hF c (by simp)).trans hc)]; rfl
  have hcW' : W.cell? ⟨c', 0, none⟩ = some (.func (.func k') #[] caps') := by rw [blk_cells ((hF c' (by simp)).trans hc')]; rfl
  have HD := hidOf (hd W b hb hG (fun j hj => hF j (by simp [hj])))
  have HD' := hidOf (fun (W1 : World) (h1 : Below W.heap.size W W1) => hd' W1 b hb (hG.keep h1) (fun j hj => (h1.block j (lt_of_blk (hF j (by simp [hj])) (hl' j hj))).trans (hF j (by simp [hj]))))
  have HK := hidOf (fun (W1 : World) (h1 : Below W.heap.size W W1) => (cellH hcW' h1 : W1.cell? ⟨c', 0, none⟩ = some (.func (.func k') #[] caps')))
  show Calls _ _ #[bdV b, .pointer (some ⟨c, 0, none⟩), .pointer (some ⟨c', 0, none⟩)] _ _
  generalize bdV b = y at HD HD'
  clear hd hd' hF hG hb hc hc' hl hl' hcW'
  cases hz : p b
  all_goals rw [hz] at HD
  all_goals have Hz := hidOf hz
  all_goals clear hz
  · go_enter Tryz.func195, Tryz.ntmps195
    go_wp2_with fail
    refine (HD.out).mono ?_
    rintro e W1 ⟨rfl, hb1⟩
    have q1 := HK.out W1 hb1
    have HE := hidOf (HD'.out W1 hb1)
    have HB := hidOf hb1
    clear HD HD' HK hcW hb1
    go_wp2_with fail
    refine (HE.out).mono ?_
    rintro e W2 ⟨rfl, hb2⟩
    have HB2 := hidOf (bl_trans HB.out hb2)
    clear HE q1 hb2 HB
    go_wp2
    go_ret
    exact ⟨rbool (by simp [Hz.out]), HB2.out⟩
  · go_enter Tryz.func195, Tryz.ntmps195
    go_wp2_with fail
    refine (HD.out).mono ?_
    rintro e W1 ⟨rfl, hb1⟩
    clear HD HD' HK hcW
    go_wp2
    go_ret
    exact ⟨rbool (by simp [Hz.out]), hb1⟩
theorem ok_5 {n : Int} {s : ByteArray} (h : okTm (5, n, s) = true) : 1 ≤ n := by
  simp [okTm] at h
  exact h.1.1
theorem repSys : Sys RepP where
  isfn := fun ⟨_, k, caps, h, _⟩ => ⟨k, caps, h⟩
  frame := fun ⟨hl, k, caps, h, hc, hd⟩ hs hF => ⟨fun j hj => Nat.lt_of_lt_of_le (hl j hj) hs, k, caps, h, hc, fun W b hb hG hW => hd W b hb hG (fun j hj => (hW j hj).trans (hF j hj))⟩
  lt := fun h => h.1
  all := fun u => ⟨fun j hj => (by cases hj), _, _, rfl, fun _ _ => (by kernel_rfl), passAll_does u⟩
  leaf := fun t u hok hc _ => by
    obtain ⟨op, n, s⟩ := t
    have h := leaf_ops hok hc
    simp only at h ⊢
    rcases h with rfl | rfl | rfl | rfl | rfl | rfl | rfl
    · exact (testOf_1 n s u).mono fun e u' ⟨he, hu⟩ => ⟨_, [], he, ⟨fun j hj => (by cases hj), _, _, rfl, fun _ _ => (by kernel_rfl), fun W b hb hG hW => (passAll_does u' W b hb hG hW).mono fun e W' ⟨h1, h2⟩ => ⟨by rw [h1]; cases b <;> rfl, h2⟩⟩, fun j hj => (by cases hj), hu ▸ bl_alloc (Below.refl _ _) _⟩
    · exact (testOf_2 n s u).mono fun e u' ⟨he, hu⟩ => ⟨_, _, he, hu ▸ leaf_2 n s u, two_ge u, hu ▸ bl_alloc (bl_alloc (Below.refl _ _) _) _⟩
    · exact (testOf_3 n s u).mono fun e u' ⟨he, hu⟩ => ⟨_, _, he, hu ▸ leaf_3 n s u, two_ge u, hu ▸ bl_alloc (bl_alloc (Below.refl _ _) _) _⟩
    · exact (testOf_4 n s u).mono fun e u' ⟨he, hu⟩ => ⟨_, _, he, hu ▸ leaf_4 n s u, two_ge u, hu ▸ bl_alloc (bl_alloc (Below.refl _ _) _) _⟩
    · exact (testOf_5 n s u).mono fun e u' ⟨he, hu⟩ => ⟨_, _, he, hu ▸ leaf_5 n s u (ok_5 hok), two_ge u, hu ▸ bl_alloc (bl_alloc (Below.refl _ _) _) _⟩
    · exact (testOf_6 n s u).mono fun e u' ⟨he, hu⟩ => ⟨_, _, he, hu ▸ leaf_6 n s u, two_ge u, hu ▸ bl_alloc (bl_alloc (Below.refl _ _) _) _⟩
    · exact (testOf_7 n s u).mono fun e u' ⟨he, hu⟩ => ⟨_, _, he, hu ▸ leaf_7 n s u, two_ge u, hu ▸ bl_alloc (bl_alloc (Below.refl _ _) _) _⟩
  nott := fun c h hc => rep_not c h hc
  andd := fun c c' h h' hc hc' => rep_and c c' h h' hc hc'
  orr := fun c c' h h' hc hc' => rep_or c c' h h' hc hc'
def bdOf (k n : Int) (s : ByteArray) : Bd := if k = 1 then .inl n else .inr s
theorem bdOf_V {k n : Int} {s : ByteArray} : bdV (bdOf k n s) = .iface (tyOf k) (valOf k n s) := by
  unfold bdOf tyOf valOf
  by_cases h : k = 1
  · simp [h, bdV]
  · simp [h, bdV]
theorem bdOf_ok {k n : Int} {s : ByteArray} (h : okB k n s = true) : BdOk (bdOf k n s) := by
  unfold bdOf
  by_cases h1 : k = 1
  · simp [h1, BdOk]
  · simp only [h1, if_false, BdOk]
    by_cases h2 : k = 2
    · subst h2
      simp [okB, plainB] at h
      exact h.2.1
    · simp [okB, h1, h2] at h
def passM (ts : List Tm) (k n : Int) (s : ByteArray) : Bool := okF ts && (okB k n s && passP ts (bdOf k n s))
set_option maxHeartbeats 1000000 in
theorem implPasses_any (a : Option Addr) (m cap : Nat) (ts : List Tm) (k n : Int) (s : ByteArray) (w : World) (hI : TmAt w a m ts) (hm : m ≤ 9223372036854775807) (hs : s.size ≤ maxLen) (hG : GOk w) :
    Calls Tryz.prog 145 #[.slice a m cap, .agg #[.int .i64 k, .int .i64 n, .string s]] w fun e w' => e = .returned (.bool (passM ts k n s)) ∧ Below w.heap.size w w' := by
  obtain ⟨W0, hW0⟩ : ∃ W, W = w.alloc (.cells #[.int .i64 k, .int .i64 n, .string s] 30) := ⟨_, rfl⟩
  have b0 : Below w.heap.size w W0 := by rw [hW0]; exact bl_alloc (Below.refl _ _) _
  have x0 : Box3 w.heap.size (.int .i64 k) (.int .i64 n) (.string s) W0 := by rw [hW0]; exact Box3.new w _ _ _ _
  have HC := hidOf (compile_any repSys a m cap ts W0 (hI.keep b0) hm)
  have HX := hidOf x0
  have HB0 := hidOf b0
  have HG := hidOf hG
  clear hI b0 x0 hG
  go_enter Tryz.func145, Tryz.ntmps145
  go_wp2_with fail
  rw [← hW0]
  clear hW0
  refine (HC.out).mono ?_
  rintro e w1 ⟨f, rfl, hf, hb1⟩
  have HX1 := hidOf (HX.out.keep hb1)
  have HB1 := hidOf (bl_trans HB0.out hb1)
  have HFn := hidOf hf
  clear hf hb1 HX HB0 HC
  obtain ⟨_, p0, p1, p2, pf⟩ := id HX1.out
  go_wp2_with fail
  refine (body_any k n s _ hs).mono ?_
  rintro e w2 ⟨hc, hb2⟩
  have HB2 := hidOf (bl_trans HB1.out hb2)
  have HS2 := hidOf hb2
  clear hb2 HB1 p0 p1 p2 pf HX1
  cases hok : okF ts
  · have HQ := hidOf (show passM ts k n s = false by simp [passM, hok])
    have hv : ∃ v b, e = .returned (.tuple #[v, .bool b]) := by
      rcases hc with ⟨_, rfl⟩ | ⟨_, rfl⟩
      · exact ⟨_, _, rfl⟩
      · exact ⟨_, _, rfl⟩
    obtain ⟨v, b, rfl⟩ := hv
    clear hc hok HFn
    go_wp2
    go_ret
    exact ⟨rbool HQ.out.symm, HB2.out⟩
  · rcases hc with ⟨ho, rfl⟩ | ⟨ho, rfl⟩
    · unfold yes
      obtain ⟨F, hR⟩ := HFn.out hok
      obtain ⟨hl, kf, caps, rfl, hcf, hd⟩ := hR
      have hdd := hd w2 (bdOf k n s) (bdOf_ok ho) (HG.out.keep HB2.out) (fun j hj => HS2.out.block j (hl j hj))
      rw [bdOf_V] at hdd
      have HD := hidOf hdd
      have HQ := hidOf (show passM ts k n s = passP ts (bdOf k n s) by simp [passM, hok, ho])
      clear hd hdd hl hok ho HFn
      go_wp2_with fail
      refine (HD.out).mono ?_
      rintro e w3 ⟨rfl, hb3⟩
      have HB3 := hidOf (bl_trans HB2.out hb3)
      clear HD hb3 HB2
      go_wp2
      go_ret
      exact ⟨rbool HQ.out.symm, HB3.out⟩
    · unfold no
      have HQ := hidOf (show passM ts k n s = false by simp [passM, hok, ho])
      clear hok ho HFn
      go_wp2
      go_ret
      exact ⟨rbool HQ.out.symm, HB2.out⟩
end Go.Proofs.YtdboaoejlkkoeaaGreat
