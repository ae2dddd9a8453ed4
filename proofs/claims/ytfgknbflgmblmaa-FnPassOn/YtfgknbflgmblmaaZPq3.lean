/-
  The program's notifications: a copy, a client's grant, the others
-/
import Derived.Test.YtfgknbflgmblmaaZPq2
import Derived.Laws.StructEq
namespace Go.Proofs.Ytfgknbflgmblmaa
open Go.RowKit Go.Maps Pl Il
/-- A notification whose two lists are rows of its own. -/
structure NRow (B : Nat) (w : World) (A : Na) (x : Nt) : Prop where
  one : w.ownsRow B 3 1 (.slice A.a A.n A.c) A.n (x.ln.map (Value.int .i64))
  two : w.ownsRow B 44 2 (.slice A.a' A.n' A.c') A.n' (gflat x.gs)
theorem own_far1 {B s : Nat} {w : World} {v : Value} {n : Nat} {t : TypeId} {xs : List Value} (h : w.ownsRow B t s v n xs) (b o : Nat) (hb : b < B) (x : Value) : (w.setCell ⟨b, o, none⟩ x).ownsRow B t s v n xs := by
  refine h.kept (row := some b) ⟨rfl, rfl, rfl, by simp, fun k _ hk => Below.heap_setCell _ _ _ _ (by rintro rfl; exact hk rfl)⟩ ?_
  cases e : v.ownBlock with
  | none => exact .inl rfl
  | some q => exact .inr (fun e' => by cases e'; have := (h.lt _ e).1; omega)
theorem own_mono1 {B B' s : Nat} {w : World} {v : Value} {n : Nat} {t : TypeId} {xs : List Value} (h : w.ownsRow B t s v n xs) (hb : B' ≤ B) : w.ownsRow B' t s v n xs := by
  obtain ⟨hl, hn | ⟨g, cap, cur, rfl, hB, hr⟩⟩ := h
  · exact ⟨hl, .inl hn⟩
  · exact ⟨hl, .inr ⟨g, cap, cur, rfl, Nat.le_trans hb hB, hr⟩⟩
section
variable {B B' : Nat} {w w' : World} {A : Na} {x : Nt}
theorem NRow.keep (h : NRow B w A x) (hb : Below w.heap.size w w') : NRow B w' A x := ⟨ownsRow_keep h.one hb, ownsRow_keep h.two hb⟩
theorem NRow.mono (h : NRow B w A x) (hB : B' ≤ B) : NRow B' w A x := ⟨own_mono1 h.one hB, own_mono1 h.two hB⟩
theorem NRow.far (h : NRow B w A x) (b o : Nat) (hb : b < B) (y : Value) : NRow B (w.setCell ⟨b, o, none⟩ y) A x := ⟨own_far1 h.one b o hb y, own_far1 h.two b o hb y⟩
theorem NRow.far6 (h : NRow B w A x) (N : Nat) (hN : N < B) (y0 y1 y2 y3 y4 y5 : Value) :
    NRow B ((((((w.setCell ⟨N, 0, none⟩ y0).setCell ⟨N, 1, none⟩ y1).setCell ⟨N, 2, none⟩ y2).setCell ⟨N, 3, none⟩ y3).setCell ⟨N, 4, none⟩ y4).setCell ⟨N, 5, none⟩ y5) A x :=
  (((((h.far N 0 hN y0).far N 1 hN y1).far N 2 hN y2).far N 3 hN y3).far N 4 hN y4).far N 5 hN y5
theorem NRow.cap (h : NRow B w A x) : A.n ≤ A.c := own_cap h.one
theorem NRow.own (h : NRow B w A x) : NOwn B w A x := by
  obtain ⟨a1, c1, e1, h1⟩ := own_of h.one x.ln rfl
  obtain ⟨a2, c2, e2, _, h2⟩ := ownG_of h.two x.gs rfl
  injection e1 with e1 _ _
  injection e2 with e2 _ _
  refine ⟨by rw [e1]; exact h1, by rw [e2]; exact h2, ?_⟩
  obtain ⟨_, ⟨ea, en⟩ | ⟨g, cap, cur, ea, hB, hg, hr⟩⟩ := h.one
  · exact .inl en
  obtain ⟨_, ⟨ea', en'⟩ | ⟨g', cap', cur', ea', hB', hg', hr'⟩⟩ := h.two
  · exact .inr (.inl en')
  refine .inr (.inr fun b off b' off' hb hb' => ?_)
  injection ea with ea _ _
  injection ea' with ea' _ _
  rw [ea] at hb
  rw [ea'] at hb'
  cases hb
  cases hb'
  rintro rfl
  rw [hg] at hg'
  simp at hg'
end
theorem bl_set1' {B : Nat} {w u : World} (h : Below B w u) (N o : Nat) (hN : B ≤ N) (y : Value) : Below B w (u.setCell ⟨N, o, none⟩ y) := h.setCell (p := ⟨N, o, none⟩) hN y
theorem bl_set6' {B : Nat} {w u : World} (h : Below B w u) (N : Nat) (hN : B ≤ N) (y0 y1 y2 y3 y4 y5 : Value) :
    Below B w ((((((u.setCell ⟨N, 0, none⟩ y0).setCell ⟨N, 1, none⟩ y1).setCell ⟨N, 2, none⟩ y2).setCell ⟨N, 3, none⟩ y3).setCell ⟨N, 4, none⟩ y4).setCell ⟨N, 5, none⟩ y5) :=
  bl_set1' (bl_set1' (bl_set1' (bl_set1' (bl_set1' (bl_set1' h N 0 hN y0) N 1 hN y1) N 2 hN y2) N 3 hN y3) N 4 hN y4) N 5 hN y5
theorem copiedI_row (a : Option Addr) (n cap : Nat) (xs : List Int) (w : World) (hI : IntsAt w a n xs) (hn : n ≤ 2097152) :
    Calls Try.prog 74 #[.slice a n cap] w fun e w' => ∃ a' c', e = .returned (.slice a' n c') ∧ w'.ownsRow w.heap.size 3 1 (.slice a' n c') n (xs.map (Value.int .i64)) ∧ Below w.heap.size w w' := by
  obtain ⟨v, w', hr, ho, hb⟩ := copied_run a n cap xs w hI hn
  obtain ⟨a', c', rfl, hO⟩ := own_of ho xs rfl
  have Hr := hidOf hr
  have HO := hidOf ho
  clear hr ho hI
  go_enter Try.func74, Try.ntmps74
  go_wp2_with (at_builtin; refine wpList_append_run rfl _ _ 24 rfl _ _ _ rfl rfl Hr.out ?_)
  go_ret
  exact ⟨a', c', rfl, HO.out, hb⟩
set_option maxHeartbeats 1000000 in
theorem copiedNotify_any (A : Na) (x : Nt) (w : World) (hI : NIn w A x) (hn : A.n ≤ 2097152) (hn' : A.n' ≤ 2097152) :
  Calls Try.prog 40 #[.agg #[.bool x.pm, .slice A.a A.n A.c, .slice A.a' A.n' A.c', .int .i64 x.on, .int .i64 x.sp, .int .i64 x.tk]] w fun e w' => ∃ a c a' c', e = .returned (.agg #[.bool x.pm, .slice a A.n c, .slice a' A.n' c', .int .i64 x.on, .int .i64 x.sp, .int .i64 x.tk]) ∧ NRow w.heap.size w' ⟨a, A.n, c, a', A.n', c'⟩ x ∧ Below w.heap.size w w' := by
 generalize hW0 : w.alloc (.cells #[.bool x.pm, .slice A.a A.n A.c, .slice A.a' A.n' A.c', .int .i64 x.on, .int .i64 x.sp, .int .i64 x.tk] 27) = W0
 generalize hW1 : W0.alloc (.cells #[.bool false, .slice none 0 0, .slice none 0 0, .int .i64 0, .int .i64 0, .int .i64 0] 27) = W1
 have b0 : Below w.heap.size w W0 := by subst hW0; exact bl_alloc (Below.refl _ _) _
 have b1 : Below w.heap.size w W1 := by subst hW1; exact bl_alloc b0 _
 have s0 : W0.heap.size = w.heap.size + 1 := by subst hW0; simp
 have s1 : W1.heap.size = w.heap.size + 2 := by subst hW1; simp [s0]
 have x0 : NBox w.heap.size A x W1 := by subst hW1 hW0; exact (NBox.new w A x _).alloc _
 have x1 : NBox (w.heap.size + 1) Na.zero Nt.zero W1 := by subst hW1; rw [← s0]; exact NBox.newZ W0 _
 have hI1 := hidOf (hI.keep b1)
 have HI := hidOf hI
 have X0 := hidOf x0
 have X1 := hidOf x1
 have HB := hidOf b1
 have S1 := hidOf s1
 clear hI x0 x1 b0 b1 s0 s1
 subst hW1 hW0
 go_enter Try.func40, Try.ntmps40
 go_wp2_with fail
 refine (copiedI_row A.a A.n A.c x.ln _ hI1.out.ints hn).mono ?_
 rintro e w1 ⟨a1, c1, rfl, ho1, hb1⟩
 rw [S1.out] at ho1
 have x0 := X0.out.keep hb1
 have x1 := X1.out.keep hb1
 have hB1 := bl_trans HB.out hb1
 have y0 := x0.set1 (a := a1) (n := A.n) (c := c1)
 have y1 := x1.far w.heap.size 1 (by omega) (.slice a1 A.n c1)
 have ho2 := own_far1 ho1 w.heap.size 1 (by omega) (.slice a1 A.n c1)
 have hB2 := bl_set1' hB1 w.heap.size 1 (Nat.le_refl _) (.slice a1 A.n c1)
 have hG := hidOf (HI.out.grs.keep hB2)
 have hsz1 := hB2.size
 obtain ⟨_, p0, p1, p2, p3, p4, p5, pf⟩ := id x0
 obtain ⟨_, q0, q1, q2, q3, q4, q5, _⟩ := id y0
 have Y0 := hidOf y0
 have Y1 := hidOf y1
 have HO2 := hidOf ho2
 have HB2 := hidOf hB2
 have hz := y1.lt
 have HZ := hidOf hz
 clear hb1 ho1 hB1 x0 x1 y0 y1 ho2 hB2 hI1 X0 X1 HB hz
 go_wp2_with fail
 refine (copiedG_any A.a' A.n' A.c' x.gs _ hG.out hn').mono ?_
 rintro e w2 ⟨a2, c2, rfl, ho3, hb3⟩
 have hz := HZ.out
 have z0 := Y0.out.keep hb3
 have z1 := Y1.out.keep hb3
 have hN : NRow (w.heap.size + 2) w2 ⟨a1, A.n, c1, a2, A.n', c2⟩ x := ⟨ownsRow_keep HO2.out hb3, own_mono1 ho3 (by omega)⟩
 have hN2 := (hN.far w.heap.size 2 (by omega) (.slice a2 A.n' c2)).far6 (w.heap.size + 1) (by omega) (.bool x.pm) (.slice a1 A.n c1) (.slice a2 A.n' c2) (.int .i64 x.on) (.int .i64 x.sp) (.int .i64 x.tk)
 have hB3 := bl_set6' (bl_set1' (bl_trans HB2.out hb3) w.heap.size 2 (Nat.le_refl _) (.slice a2 A.n' c2)) (w.heap.size + 1) (by omega) (.bool x.pm) (.slice a1 A.n c1) (.slice a2 A.n' c2) (.int .i64 x.on) (.int .i64 x.sp) (.int .i64 x.tk)
 obtain ⟨_, r0, r1, r2, r3, r4, r5, rf⟩ := id z0
 obtain ⟨_, t0, t1, t2, t3, t4, t5, tf⟩ := id z1
 have HN := hidOf hN2
 have HB3 := hidOf hB3
 clear hN hN2 hB3 ho3 hb3 z0 z1 Y0 Y1 HO2 HB2 hG p0 p1 p2 p3 p4 p5 pf q0 q1 q2 q3 q4 q5 hz HZ S1 HI hsz1
 go_wp2
 exact bodyPost_ret (v := .agg #[.bool x.pm, .slice a1 A.n c1, .slice a2 A.n' c2, .int .i64 x.on, .int .i64 x.sp, .int .i64 x.tk]) (by simp [results, Try.results40, go_sem, t0, t1, t2, t3, t4, t5]) rfl ⟨_, _, _, _, rfl, HN.out.mono (by omega), HB3.out⟩
theorem eqG (a c : Int) (b d : Bool) (w : World) : (Op.equalIn 10000 44 (.agg #[.int .i64 a, .bool b]) (.agg #[.int .i64 c, .bool d])).run Try.prog w = .ok (a == c && b == d) w := by
  have u3 := Try.underlying3
  have a3 := Try.isAgg3
  have z3 := Try.sizeOf3
  have u4 := Try.underlying4
  have a4 := Try.isAgg4
  have z4 := Try.sizeOf4
  have hS : Try.prog.underlying 44 = some (.struct (Try.prog.fieldsOf 44)) := by kernel_rfl
  have hp : Try.prog.stoodInHeld 44 = false := by kernel_rfl
  rw [show (10000 : Nat) = 9999 + 1 from rfl, run_equalIn_agg w 9999 44 _ _ hS hp]
  simp only [Program.fieldsOf, Try.underlying44]
  go_simp
  by_cases h1 : a = c <;> by_cases h2 : b = d <;> simp [h1, h2]
theorem eqlG (a c : Int) (b d : Bool) (r : Bool) (hr : (a == c && b == d) = r) (w : World) : (binOp .eql 44 (.agg #[.int .i64 a, .bool b]) (.agg #[.int .i64 c, .bool d])).run Try.prog w = .ok (.bool r) w := by
  rw [run_eql_struct, eqG, hr]; rfl
theorem neqG (a c : Int) (b d : Bool) (r : Bool) (hr : (!(a == c && b == d)) = r) (w : World) : (binOp .neq 44 (.agg #[.int .i64 a, .bool b]) (.agg #[.int .i64 c, .bool d])).run Try.prog w = .ok (.bool r) w := by
  rw [run_neq_struct, eqG, ← hr]; rfl
/-- How who was told, if it was. -/
def findG (gs : List (Int × Bool)) (who : Int) : Option Bool := (gs.find? (fun g => g.1 == who)).map (·.2)
theorem find_none {gs : List (Int × Bool)} {who : Int} (h : hasL (whosL gs) who = false) : findG gs who = none := by
  unfold findG
  have : gs.find? (fun g => g.1 == who) = none := by
    rw [List.find?_eq_none]
    intro g hg e
    have : who ∈ whosL gs := by simp only [whosL, List.mem_map]; exact ⟨g, hg, by simpa using e⟩
    simp [hasL, this] at h
  rw [this]; rfl
theorem find_hit {gs : List (Int × Bool)} {who : Int} {k : Nat} {b : Bool} (hk : k < gs.length) (h : hasL ((whosL gs).take k) who = false) (he : gg gs k = (who, b)) : findG gs who = some b := by
  unfold findG
  have e : gs = gs.take k ++ (who, b) :: gs.drop (k + 1) := by
    have h1 := drop_gg hk
    rw [he] at h1
    rw [← h1, List.take_append_drop]
  have hn : (gs.take k).find? (fun g => g.1 == who) = none := by
    rw [List.find?_eq_none]
    intro g hg e
    have : who ∈ (whosL gs).take k := by rw [← whos_take]; simp only [whosL, List.mem_map]; exact ⟨g, hg, by simpa using e⟩
    simp [hasL, this] at h
  rw [e, List.find?_append, hn]
  simp
def grRes (o : Option Bool) (who : Int) : Value := .tuple #[.agg #[.int .i64 (match o with | some _ => who | none => 0), .bool (match o with | some b => b | none => false)], .bool o.isSome]
theorem cellB {w w' : World} {a : Addr} {v : Value} (h : w.cell? a = some v) (hb : Below w.heap.size w w') : w'.cell? a = some v := by
  rw [hb.cell (p := a) (World.block_lt_of_cell? w a h)]; exact h
set_option maxHeartbeats 2000000 in
theorem grantOf_any (a : Option Addr) (n cap : Nat) (gs : List (Int × Bool)) (who : Int) (w : World) (hI : GrAt w a n gs) (hn : n ≤ 2097152) :
  Calls Try.prog 44 #[.slice a n cap, .int .i64 who] w fun e w' => e = .returned (grRes (findG gs who) who) ∧ Below w.heap.size w w' := by
 obtain ⟨W, hW⟩ : ∃ W, W = ((w.alloc (.cells #[.int .i64 0, .bool false] 44)).alloc (.cells #[.int .i64 who, .bool true] 44)).alloc (.cells #[.int .i64 who, .bool false] 44) := ⟨_, rfl⟩
 have b0 : Below w.heap.size w W := by subst hW; exact bl_alloc (bl_alloc (bl_alloc (Below.refl _ _) _) _) _
 have hc : W.cell? ⟨w.heap.size, 0, none⟩ = some (.int .i64 0) ∧ W.cell? ⟨w.heap.size, 1, none⟩ = some (.bool false) ∧ W.cell? ⟨w.heap.size + 1, 0, none⟩ = some (.int .i64 who) ∧ W.cell? ⟨w.heap.size + 1, 1, none⟩ = some (.bool true) ∧ W.cell? ⟨w.heap.size + 1 + 1, 0, none⟩ = some (.int .i64 who) ∧ W.cell? ⟨w.heap.size + 1 + 1, 1, none⟩ = some (.bool false) ∧ (∀ o, W.frozen? ⟨w.heap.size, o, none⟩ = false) ∧ W.heap.size = w.heap.size + 3 := by
  subst hW; simp [go_sem]
 have hI0 := hI.keep b0
 have hlen := hI.len
 have HC := hidOf hc
 have HI := hidOf hI0
 have HL := hidOf hlen
 have B0 := hidOf b0
 have HWl : (whosL gs).length = n := by rw [whos_len, hlen]
 have HW := hidOf HWl
 clear hI hI0 hc hlen b0 HWl
 go_enter Try.func44, Try.ntmps44
 go_wp2_with fail
 rw [← hW]
 go_loopw [16] (fun i wr => ∃ k : Nat, k ≤ n ∧ i = .int .i64 k ∧ hasL ((whosL gs).take k) who = false ∧ Below W.heap.size W wr) (fun i _ => n - (intOf i).toNat)
 case atStart => exact ⟨0, Nat.zero_le _, rfl, by simp [hasL], Below.refl _ _⟩
 case round =>
  rename_i wr
  obtain ⟨k, hk, rfl, hno, hbr⟩ := hrel
  have HNo := hidOf hno
  clear hno
  obtain ⟨h0, h1, h2, h3, h4, h5, hf, hs⟩ := HC.out
  have HS := hidOf hs
  have v0 := cellB h0 hbr
  have v1 := cellB h1 hbr
  have v2 := cellB h2 hbr
  have v3 := cellB h3 hbr
  have v4 := cellB h4 hbr
  have v5 := cellB h5 hbr
  have vf : ∀ o, wr.frozen? ⟨w.heap.size, o, none⟩ = false := fun o => by rw [hbr.frozen (p := ⟨w.heap.size, o, none⟩) (by simp only; omega)]; exact hf o
  have hsz := hbr.size
  have d0 : ∀ o, (wr.alloc o).cell? ⟨w.heap.size, 0, none⟩ = some (.int .i64 0) := fun o => by rw [World.cell?_alloc_old _ _ _ (Nat.ne_of_lt (World.block_lt_of_cell? wr _ v0))]; exact v0
  have d1 : ∀ o, (wr.alloc o).cell? ⟨w.heap.size, 1, none⟩ = some (.bool false) := fun o => by rw [World.cell?_alloc_old _ _ _ (Nat.ne_of_lt (World.block_lt_of_cell? wr _ v1))]; exact v1
  have df : ∀ o' o, (wr.alloc o').frozen? ⟨w.heap.size, o, none⟩ = false := fun o' o => by rw [(bl_alloc (Below.refl wr.heap.size wr) o').frozen (p := ⟨w.heap.size, o, none⟩) (show w.heap.size < wr.heap.size from World.block_lt_of_cell? wr ⟨w.heap.size, 0, none⟩ v0)]; exact vf o
  have d2 : ∀ o, (wr.alloc o).cell? ⟨w.heap.size + 1, 0, none⟩ = some (.int .i64 who) := fun o => by rw [World.cell?_alloc_old _ _ _ (Nat.ne_of_lt (World.block_lt_of_cell? wr _ v2))]; exact v2
  have d3 : ∀ o, (wr.alloc o).cell? ⟨w.heap.size + 1, 1, none⟩ = some (.bool true) := fun o => by rw [World.cell?_alloc_old _ _ _ (Nat.ne_of_lt (World.block_lt_of_cell? wr _ v3))]; exact v3
  have d4 : ∀ o, (wr.alloc o).cell? ⟨w.heap.size + 1 + 1, 0, none⟩ = some (.int .i64 who) := fun o => by rw [World.cell?_alloc_old _ _ _ (Nat.ne_of_lt (World.block_lt_of_cell? wr _ v4))]; exact v4
  have d5 : ∀ o, (wr.alloc o).cell? ⟨w.heap.size + 1 + 1, 1, none⟩ = some (.bool false) := fun o => by rw [World.cell?_alloc_old _ _ _ (Nat.ne_of_lt (World.block_lt_of_cell? wr _ v5))]; exact v5
  by_cases hlt : k < n
  ·obtain ⟨_, h' | ⟨b, off, rfl, hb, hcell⟩⟩ := HI.out.keep hbr
   ·omega
   have hkl : k < gs.length := by rw [HL.out]; exact hlt
   obtain ⟨c1, c2⟩ := hcell k hlt
   have hya := whos_at gs k
   have hfi := fun b' => find_hit (who := who) (b := b') hkl HNo.out
   obtain ⟨⟨y1, yb⟩, hy⟩ : ∃ y, gg gs k = y := ⟨_, rfl⟩
   rw [hy] at c1 c2 hya hfi
   simp only at c1 c2 hya
   have HY := hidOf hya
   have HFi := hidOf hfi
   have hki : (0 : Int) ≤ (k : Int) ∧ (k : Int) < (n : Int) := by omega
   have HBA := hidOf (bl_trans hbr (bl_alloc (Below.refl wr.heap.size wr) (.cells #[.int .i64 y1, .bool yb] 44)))
   clear hy hcell hya hfi h0 h1 h2 h3 h4 h5 hf hs hbr hsz hkl
   by_cases hxy : y1 = who
   ·subst hxy
    have hr := HFi.out yb rfl
    have HR := hidOf hr
    have HE := hidOf (bl_set1' (bl_set1' (B0.out.trans (HBA.out.mono B0.out.size)) w.heap.size 0 (Nat.le_refl _) (.int .i64 y1)) w.heap.size 1 (Nat.le_refl _) (.bool yb))
    clear hr
    cases yb
    ·have e1 := eqlG y1 y1 false true false (by simp)
     have e2 := eqlG y1 y1 false false true (by simp)
     go_wp2
     refine bodyPost_ret (v := .tuple #[.agg #[.int .i64 y1, .bool false], .bool true]) (by simp [results, Try.results44, go_sem, d0, d1]) rfl ⟨?_, HE.out⟩
     rw [HR.out]; rfl
    ·have e1 := eqlG y1 y1 true true true (by simp)
     go_wp2
     refine bodyPost_ret (v := .tuple #[.agg #[.int .i64 y1, .bool true], .bool true]) (by simp [results, Try.results44, go_sem, d0, d1]) rfl ⟨?_, HE.out⟩
     rw [HR.out]; rfl
   ·have e1 := eqlG y1 who yb true false (by simp [hxy])
    have e2 := eqlG y1 who yb false false (by simp [hxy])
    have hnx := hidOf (has_step (x := who) (by have := HW.out; omega) HNo.out (by rw [HY.out]; simp [hxy]))
    clear hxy
    go_wp2
    go_roundw
    case rel => exact ⟨k + 1, by omega, by go_num, hnx.out, HBA.out⟩
    case measure => simp [intOf]; omega
  ·have hr := find_none (has_end (by have := HW.out; omega) HNo.out)
   have HR := hidOf hr
   have HE := hidOf (bl_set1' (bl_set1' (B0.out.trans (hbr.mono B0.out.size)) w.heap.size 0 (Nat.le_refl _) (.int .i64 0)) w.heap.size 1 (Nat.le_refl _) (.bool false))
   have HE2 := hidOf (B0.out.trans (hbr.mono B0.out.size))
   clear hr h0 h1 h2 h3 h4 h5 hf hs hbr hsz
   go_wp2
   refine bodyPost_ret (v := .tuple #[.agg #[.int .i64 0, .bool false], .bool false]) (by simp [results, Try.results44, go_sem, v0, v1]) rfl ⟨?_, by first | exact HE.out | exact HE2.out⟩
   rw [HR.out]; rfl
end Go.Proofs.Ytfgknbflgmblmaa
