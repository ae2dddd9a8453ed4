/-
  Walks of the program's tokens: going down from one, and what is told sorted.
-/
import Derived.Test.YtgklnpkeffobnaaNDU
import Derived.Test.YtgklnpkeffobnaaNDC
import Derived.Test.YtgklnpkeffobnaaSortLay
import Derived.Sort.OwnSortedInts
namespace Go.Proofs.Ytgklnpkeffobnaa
open Go.RowKit Pl Il

/-- What is told is written anew, all else lies as it did. -/
theorem DMem.grown {B : Nat} {w0 : World} {B0 N : Nat} {lv : Value} {bs : List Nat} {ps : List Int} {gv : Value} {qs : List Bool} {gs gs' : List Int} {w w' : World} (h : DMem B w0 B0 N lv bs ps gv qs gs w) (hg : w.grownBy w' gv.ownBlock) (ho : w'.ownsRow B 3 1 gv gs'.length (gs'.map (Value.int .i64))) : DMem B w0 B0 N lv bs ps gv qs gs' w' := by
  have key : ∀ (b : Nat) (cs : Array Value) (t : TypeId), w.heap[b]? = some (.cells cs t (0, 0)) → t ≠ 3 → w'.heap[b]? = w.heap[b]? := fun b cs t hb h3 => hg.block b (lt_of_some hb) (gone_ne h.gone hb h3)
  have hsz := h.size
  have hbz := h.hB
  have hsw := hg.size
  refine ⟨by rw [key N _ _ h.bn (by decide)]; exact h.bn, nrow_kept h.row (fun b cs hb => key b cs _ hb (by decide)), h.nodes.kept fun i hi => key _ _ _ (h.nodes.blk i hi) (by decide), ho, h.below.grown hg (by omega) (fun j hj => by have := ownsRow_ge h.gone hj; omega), h.hN, h.hB, by omega⟩

theorem sort_any {B : Nat} {w : World} {gv : Value} {gs : List Int} (h : w.ownsRow B 3 1 gv gs.length (gs.map (Value.int .i64))) (hs : gs.length ≤ 4194304) :
    Calls Try.prog 40 #[gv] w fun e w' => e = .returned (.tuple #[]) ∧ w'.ownsRow B 3 1 gv gs.length ((gs.mergeSort fun x y => decide (x ≤ y)).map (Value.int .i64)) ∧ w.grownBy w' gv.ownBlock := by
  obtain ⟨hl, ⟨rfl, h0⟩ | ⟨g, cap, cur, rfl, hB, hg, hc, hm, hsz, ht⟩⟩ := id h
  · have : gs = [] := List.length_eq_zero_iff.1 h0
    subst this
    refine (Any.slices_Sort_int_none Try.lays189 none 0 w).mono ?_
    rintro e w' ⟨rfl, rfl⟩
    exact ⟨rfl, ⟨by simp, .inl ⟨rfl, rfl⟩⟩, ⟨rfl, rfl, rfl, Nat.le_refl _, fun _ _ _ => rfl⟩⟩
  · have hH := holds_of_blockI hg (by simpa using ht)
    refine (Any.slices_Sort_int Try.lays189 g 0 cap gs w hH (lt_of_some hg) (by omega)).mono ?_
    rintro e w' ⟨rfl, n, os, rfl⟩
    refine ⟨rfl, ?_, grownBy_sortedI _⟩
    exact ownsRow_sortedI (by simp) hB hg hc hm hsz

/-- The three variables that going down captures, in new memory. -/
structure Boxes (L N fv : Nat) (lv : Value) (w : World) : Prop where
  bl : w.heap[L]? = some (.cells #[lv] 51 (0, 0))
  bv : w.heap[L + 1]? = some (.cells #[.func (.func fv) #[] #[.pointer (some ⟨N, 0, none⟩)]] 61 (0, 0))
  bd : w.heap[L + 2]? = some (.cells #[.func (.func 60) #[] #[.pointer (some ⟨L + 1, 0, none⟩), .pointer (some ⟨L, 0, none⟩), .pointer (some ⟨L + 2, 0, none⟩)]] 61 (0, 0))
theorem Boxes.stays {L N fv : Nat} {lv : Value} {w w' : World} (h : Boxes L N fv lv w) (hs : Stays w w') : Boxes L N fv lv w' := ⟨hs _ _ _ h.bl (.inl rfl), hs _ _ _ h.bv (.inr rfl), hs _ _ _ h.bd (.inr rfl)⟩
theorem Boxes.new (w : World) (N fv : Nat) (lv : Value) : Boxes w.heap.size N fv lv (((w.alloc (.cells #[lv] 51)).alloc (.cells #[.func (.func fv) #[] #[.pointer (some ⟨N, 0, none⟩)]] 61)).alloc (.cells #[.func (.func 60) #[] #[.pointer (some ⟨w.heap.size + 1, 0, none⟩), .pointer (some ⟨w.heap.size, 0, none⟩), .pointer (some ⟨w.heap.size + 2, 0, none⟩)]] 61)) := by
  refine ⟨?_, ?_, ?_⟩
  · rw [Below.heap_alloc _ _ _ (by simp; omega), Below.heap_alloc _ _ _ (by simp)]
    exact heap_alloc_new _ _
  · rw [Below.heap_alloc _ _ _ (by simp)]
    have := heap_alloc_new (w.alloc (.cells #[lv] 51)) (.cells #[.func (.func fv) #[] #[.pointer (some ⟨N, 0, none⟩)]] 61)
    simpa using this
  · have := heap_alloc_new ((w.alloc (.cells #[lv] 51)).alloc (.cells #[.func (.func fv) #[] #[.pointer (some ⟨N, 0, none⟩)]] 61)) (.cells #[.func (.func 60) #[] #[.pointer (some ⟨w.heap.size + 1, 0, none⟩), .pointer (some ⟨w.heap.size, 0, none⟩), .pointer (some ⟨w.heap.size + 2, 0, none⟩)]] 61)
    simpa using this
theorem cell_one {w : World} {b : Nat} {v : Value} {t : TypeId} (h : w.heap[b]? = some (.cells #[v] t (0, 0))) : w.cell? ⟨b, 0, none⟩ = some v := by simp [World.cell?, h]
theorem DMem.reads {B : Nat} {w0 : World} {B0 N : Nat} {g c : Nat} {bs : List Nat} {ps : List Int} {gv : Value} {qs : List Bool} {gs : List Int} {w : World} (h : DMem B w0 B0 N (.slice (some ⟨g, 0, none⟩) bs.length c) bs ps gv qs gs w) :
    (∀ k, k < bs.length → w.cell? ⟨g, k, none⟩ = some (nodeP (bs.getD k 0))) ∧ ∀ k, k < bs.length → ∃ q, w.heap[bs.getD k 0]? = some (nodeO k (parV bs (ps.getD k 0)) q) := by
  refine ⟨fun k hk => ?_, fun k hk => ⟨_, h.nodes.blk k hk⟩⟩
  obtain ⟨a, c', e, h0 | ⟨g', ea, _, _, hcl⟩⟩ := h.row.parts
  · omega
  · simp only [Value.slice.injEq] at e
    rw [ea] at e
    obtain ⟨e1, _, _⟩ := e
    cases e1
    exact hcl k hk
theorem Nodes.nodup {B : Nat} {w : World} {bs : List Nat} {ps : List Int} {qs : List Bool} (h : Nodes B w bs ps qs) : ∀ i j, i < bs.length → j < bs.length → bs.getD i 0 = bs.getD j 0 → i = j := fun _ _ hi hj e => h.inj hi hj e
theorem down_len24 {ps : List Int} {n f x : Nat} (hp : parR ps n) (hf : n - x ≤ f) (hx : x < n) : (downL ps n f x).length ≤ n := by
  rw [(down_perm hp hf hx).length_eq]
  have := under_len ps x (n - x)
  omega

theorem goDownUnder_any {B : Nat} {w0 : World} {B0 N : Nat} {g c : Nat} {bs : List Nat} {ps : List Int} {gv : Value} {qs : List Bool} {w : World} (h : DMem B w0 B0 N (.slice (some ⟨g, 0, none⟩) bs.length c) bs ps gv qs [] w) (x : Nat) (hx : x < bs.length) (hn : bs.length ≤ 24) :
    Calls Try.prog 38 #[.slice (some ⟨g, 0, none⟩) bs.length c, nodeP (bs.getD x 0), .func (.func 45) #[] #[.pointer (some ⟨N, 0, none⟩)]] w fun e w' => e = .returned (.tuple #[]) ∧ ∃ gv', DMem B w0 B0 N (.slice (some ⟨g, 0, none⟩) bs.length c) bs ps gv' qs (downL ps bs.length bs.length x) w' := by
  have hpr : parR ps bs.length := h.nodes.par
  have hlen := down_len24 (f := bs.length) hpr (by omega) hx
  have hB := Boxes.new w N 45 (.slice (some ⟨g, 0, none⟩) bs.length c)
  have hM := ((h.keep (bl_alloc (Below.refl _ _) (.cells #[.slice (some ⟨g, 0, none⟩) bs.length c] 51))).keep (bl_alloc (Below.refl _ _) (.cells #[.func (.func 45) #[] #[.pointer (some ⟨N, 0, none⟩)]] 61))).keep (bl_alloc (Below.refl _ _) (.cells #[.func (.func 60) #[] #[.pointer (some ⟨w.heap.size + 1, 0, none⟩), .pointer (some ⟨w.heap.size, 0, none⟩), .pointer (some ⟨w.heap.size + 2, 0, none⟩)]] 61))
  have hcall := downUnder_any (L := w.heap.size) (N := N) (g := g) (c := c) (n := bs.length) (bs := bs) (ps := ps)
    (fun vs w' => (∃ gv', DMem B w0 B0 N (.slice (some ⟨g, 0, none⟩) bs.length c) bs ps gv' qs vs w') ∧ Boxes w.heap.size N 45 (.slice (some ⟨g, 0, none⟩) bs.length c) w') hn h.nodes.nodup hpr
    (fun vs w' ⟨⟨gv', hd⟩, hb⟩ => ⟨cell_one hb.bl, cell_one hb.bv, cell_one hb.bd, hd.reads.1, hd.reads.2⟩)
    (fun vs w' i hi hl ⟨⟨gv', hd⟩, hb⟩ => (underVisit_any hd i hi hl).mono (fun e w2 ⟨he, hd2, hs⟩ => ⟨he, hd2, hb.stays hs⟩))
    bs.length x (by omega) hx [] _ (by rw [List.length_nil]; omega) ⟨⟨gv, hM⟩, hB⟩
  have hmf : ∀ (fn : Fn) (first cap : Array Value) (w : World), (Instr.makeFunc fn first cap).run Try.prog w = .ok (.func fn first cap) w := fun _ _ _ _ => rfl
  have hsf := fun (a : Addr) (c : Array Value) (w : World) => run_store Try.prog w a (.func (.func 60) #[] c) .plain rfl
  have HC := hidOf hcall
  generalize bs.getD x 0 = bx at HC ⊢
  unfold nodeP at HC ⊢
  clear hcall hM hB h hpr hlen
  go_enter Try.func38, Try.ntmps38
  go_wp2_with fail
  refine HC.out.mono ?_
  rintro e w1 ⟨rfl, ⟨gv', hd⟩, _⟩
  have HD := hidOf hd
  clear hd
  go_wp2
  go_end0
  exact ⟨rfl, gv', HD.out⟩
theorem goDownCancel_any {B : Nat} {w0 : World} {B0 N : Nat} {g c : Nat} {bs : List Nat} {ps : List Int} {gv : Value} {qs : List Bool} {w : World} (h : DMem B w0 B0 N (.slice (some ⟨g, 0, none⟩) bs.length c) bs ps gv qs [] w) (x : Nat) (hx : x < bs.length) (hn : bs.length ≤ 24) :
    Calls Try.prog 38 #[.slice (some ⟨g, 0, none⟩) bs.length c, nodeP (bs.getD x 0), .func (.func 39) #[] #[.pointer (some ⟨N, 0, none⟩)]] w fun e w' => e = .returned (.tuple #[]) ∧ ∃ gv', DMem B w0 B0 N (.slice (some ⟨g, 0, none⟩) bs.length c) bs ps gv' ((downL ps bs.length bs.length x).foldl cancelStep (qs, [])).1 ((downL ps bs.length bs.length x).foldl cancelStep (qs, [])).2 w' := by
  have hpr : parR ps bs.length := h.nodes.par
  have hlen := down_len24 (f := bs.length) hpr (by omega) hx
  have hB := Boxes.new w N 39 (.slice (some ⟨g, 0, none⟩) bs.length c)
  have hM := ((h.keep (bl_alloc (Below.refl _ _) (.cells #[.slice (some ⟨g, 0, none⟩) bs.length c] 51))).keep (bl_alloc (Below.refl _ _) (.cells #[.func (.func 39) #[] #[.pointer (some ⟨N, 0, none⟩)]] 61))).keep (bl_alloc (Below.refl _ _) (.cells #[.func (.func 60) #[] #[.pointer (some ⟨w.heap.size + 1, 0, none⟩), .pointer (some ⟨w.heap.size, 0, none⟩), .pointer (some ⟨w.heap.size + 2, 0, none⟩)]] 61))
  have hcall := downCancel_any (L := w.heap.size) (N := N) (g := g) (c := c) (n := bs.length) (bs := bs) (ps := ps)
    (fun vs w' => (∃ gv', DMem B w0 B0 N (.slice (some ⟨g, 0, none⟩) bs.length c) bs ps gv' (vs.foldl cancelStep (qs, [])).1 (vs.foldl cancelStep (qs, [])).2 w') ∧ Boxes w.heap.size N 39 (.slice (some ⟨g, 0, none⟩) bs.length c) w') hn h.nodes.nodup hpr
    (fun vs w' ⟨⟨gv', hd⟩, hb⟩ => ⟨cell_one hb.bl, cell_one hb.bv, cell_one hb.bd, hd.reads.1, hd.reads.2⟩)
    (fun vs w' i hi hl ⟨⟨gv', hd⟩, hb⟩ => (cancelVisit_any hd i hi (by have := (cancelFold_len vs (qs, [])).2; simp only [List.length_nil] at this; omega)).mono (fun e w2 ⟨he, hd2, hs⟩ => ⟨he, by rw [List.foldl_append]; exact hd2, hb.stays hs⟩))
    bs.length x (by omega) hx [] _ (by rw [List.length_nil]; omega) ⟨⟨gv, hM⟩, hB⟩
  have hmf : ∀ (fn : Fn) (first cap : Array Value) (w : World), (Instr.makeFunc fn first cap).run Try.prog w = .ok (.func fn first cap) w := fun _ _ _ _ => rfl
  have hsf := fun (a : Addr) (c : Array Value) (w : World) => run_store Try.prog w a (.func (.func 60) #[] c) .plain rfl
  have HC := hidOf hcall
  generalize bs.getD x 0 = bx at HC ⊢
  unfold nodeP at HC ⊢
  clear hcall hM hB h hpr hlen
  go_enter Try.func38, Try.ntmps38
  go_wp2_with fail
  refine HC.out.mono ?_
  rintro e w1 ⟨rfl, ⟨gv', hd⟩, _⟩
  have HD := hidOf hd
  clear hd
  go_wp2
  go_end0
  exact ⟨rfl, gv', HD.out⟩
end Go.Proofs.Ytgklnpkeffobnaa
