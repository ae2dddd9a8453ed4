/-
  The program's notifications: grants left out, grants made, a telling p
  The program's notifications: a telling placed, a grant dropped and pas
  The program's notifications: a telling of one, a telling of all
  The plain mathematics of grants: whose is found, and the list without 
-/
import Derived.Test.YtfgknbflgmblmaaZPq5
import Derived.Test.YtfgknbflgmblmaaZPq6
import Derived.Defers
namespace Go.Proofs.Ytfgknbflgmblmaa
open Go.RowKit Go.Maps Pl Il
/-- One grant is appended to an own row. -/
theorem append_gr1 (B m : Nat) (v : Value) (ys : List (Int × Bool)) (g : Int × Bool) (w : World) (ho : w.ownsRow B 44 2 v m (gflat ys)) (hB : B ≤ w.heap.size) (hs : m + 1 ≤ 4194304) :
    ∃ (v' : Value) (w' : World), (Builtin.append_ #[25, 25] 25 #[v, .slice (some ⟨w.heap.size, 0, none⟩) 1 1]).run Try.prog (w.alloc (.cells #[.int .i64 g.1, .bool g.2] 44)) = .ok v' w' ∧
      w'.ownsRow B 44 2 v' (m + 1) (gflat (ys ++ [g])) ∧ w.grownBy w' v.ownBlock := by
  have hI : GrAt (w.alloc (.cells #[.int .i64 g.1, .bool g.2] 44)) (some ⟨w.heap.size, 0, none⟩) 1 [g] :=
    ⟨rfl, .inr ⟨w.heap.size, 0, rfl, by simp, fun i hi => by
      obtain rfl : i = 0 := by omega
      simp [gg]⟩⟩
  have hb0 : Below w.heap.size w (w.alloc (.cells #[.int .i64 g.1, .bool g.2] 44)) := bl_alloc (Below.refl _ _) _
  obtain ⟨v', w', hr, ho', hg⟩ := append_grs B v m ys _ 1 1 [g] _ (ownsRow_keep ho hb0) (by simp; omega) hI (by omega)
  refine ⟨v', w', hr, ho', ?_⟩
  exact ⟨hg.os.trans hb0.os, hg.tape.trans hb0.tape, hg.output.trans hb0.output, Nat.le_trans hb0.size hg.size, fun k hk hne => (hg.block k (Nat.lt_of_lt_of_le hk hb0.size) hne).trans (hb0.block k hk)⟩
theorem below_grown {B : Nat} {w0 w w' : World} {v : Value} {n s : Nat} {t : TypeId} {xs : List Value} (h : Below B w0 w) (ho : w.ownsRow B t s v n xs) (hg : w.grownBy w' v.ownBlock) (hB : B ≤ w.heap.size) : Below B w0 w' :=
  h.grown hg hB (fun k hk => (ho.lt k hk).1)
set_option maxHeartbeats 1000000 in
theorem without_any (a : Option Addr) (n cap : Nat) (gs : List (Int × Bool)) (g1 : Int) (gb : Bool) (w : World) (hI : GrAt w a n gs) (hn : n ≤ 2097152) :
  Calls Try.prog 45 #[.slice a n cap, .agg #[.int .i64 g1, .bool gb]] w fun e w' => ∃ a' m c', e = .returned (.slice a' m c') ∧ w'.ownsRow w.heap.size 44 2 (.slice a' m c') m (gflat (gs.filter fun h => !(h.1 == g1 && h.2 == gb))) ∧ Below w.heap.size w w' := by
 obtain ⟨W, hW⟩ : ∃ W, W = w.alloc (.cells #[.int .i64 g1, .bool gb] 44) := ⟨_, rfl⟩
 have b0 : Below w.heap.size w W := by subst hW; exact bl_alloc (Below.refl _ _) _
 have hc : W.cell? ⟨w.heap.size, 0, none⟩ = some (.int .i64 g1) ∧ W.cell? ⟨w.heap.size, 1, none⟩ = some (.bool gb) ∧ W.heap.size = w.heap.size + 1 := by subst hW; simp
 have hlen := hI.len
 have HC := hidOf hc
 have HI := hidOf (hI.keep b0)
 have HL := hidOf hlen
 have B0 := hidOf b0
 clear hI hc hlen b0
 go_enter Try.func45, Try.ntmps45
 go_wp2_with fail
 rw [← hW]
 go_loopw [5, 10] (fun v i wr => ∃ k m : Nat, k ≤ n ∧ m ≤ k ∧ i = .int .i64 k ∧ wr.ownsRow W.heap.size 44 2 v m (gflat ((gs.take k).filter fun h => !(h.1 == g1 && h.2 == gb))) ∧ Below W.heap.size W wr) (fun _ i _ => n - (intOf i).toNat)
 case atStart => exact ⟨0, 0, Nat.zero_le _, Nat.zero_le _, rfl, World.ownsRow_nil _ _ _ _, Below.refl _ _⟩
 case round =>
  rename_i wr
  obtain ⟨k, m, hk, hm, rfl, ho, hbr⟩ := hrel
  obtain ⟨h0, h1, hs⟩ := HC.out
  have v0 := cellB h0 hbr
  have v1 := cellB h1 hbr
  have hsz := hbr.size
  by_cases hlt : k < n
  ·obtain ⟨_, h' | ⟨b, off, rfl, hb, hcell⟩⟩ := HI.out.keep hbr
   ·omega
   have hkl : k < gs.length := by rw [HL.out]; exact hlt
   obtain ⟨c1, c2⟩ := hcell k hlt
   have htk := take_gg hkl
   obtain ⟨⟨y1, yb⟩, hy⟩ : ∃ y, gg gs k = y := ⟨_, rfl⟩
   rw [hy] at c1 c2 htk
   simp only at c1 c2
   have bA : Below wr.heap.size wr (wr.alloc (.cells #[.int .i64 y1, .bool yb] 44)) := bl_alloc (Below.refl _ _) _
   have hoA := ownsRow_keep ho bA
   obtain ⟨v', w', hr, ho', hg'⟩ := append_gr1 W.heap.size m u5 _ (y1, yb) _ hoA (by simp; omega) (by omega)
   have hB' := below_grown (bl_trans hbr bA) hoA hg' (by simp; omega)
   rw [show (wr.alloc (.cells #[.int .i64 y1, .bool yb] 44)).heap.size = wr.heap.size + 1 by simp] at hr
   have d0 : ∀ o, (wr.alloc o).cell? ⟨w.heap.size, 0, none⟩ = some (.int .i64 g1) := fun o => by rw [World.cell?_alloc_old _ _ _ (Nat.ne_of_lt (World.block_lt_of_cell? wr _ v0))]; exact v0
   have d1 : ∀ o, (wr.alloc o).cell? ⟨w.heap.size, 1, none⟩ = some (.bool gb) := fun o => by rw [World.cell?_alloc_old _ _ _ (Nat.ne_of_lt (World.block_lt_of_cell? wr _ v1))]; exact v1
   have hki : (0 : Int) ≤ (k : Int) ∧ (k : Int) < (n : Int) := by omega
   have Hr := hidOf hr
   have HO := hidOf hoA
   have HO' := hidOf ho'
   have HB := hidOf (bl_trans hbr bA)
   have HB' := hidOf hB'
   have HTk := hidOf htk
   clear hy hcell htk hr ho ho' hg' hB' hoA bA hbr h0 h1 hs hsz hkl
   cases hq : (!(y1 == g1 && yb == gb))
   ·have e1 := neqG y1 g1 yb gb false hq
    go_wp2
    go_roundw
    case rel => exact ⟨k + 1, m, by omega, by omega, by go_num, by rw [HTk.out, List.filter_append]; simp only [List.filter_cons, hq, List.filter_nil, List.append_nil, Bool.false_eq_true, if_false]; exact HO.out, HB.out⟩
    case measure => simp [intOf]; omega
   ·have e1 := neqG y1 g1 yb gb true hq
    go_wp2_with (at_builtin; refine wpList_append_run rfl _ _ 25 rfl _ _ _ rfl rfl Hr.out ?_)
    go_roundw
    case rel => exact ⟨k + 1, m + 1, by omega, by omega, by go_num, by rw [HTk.out, List.filter_append]; simp only [List.filter_cons, hq, List.filter_nil, if_true]; exact HO'.out, HB'.out⟩
    case measure => simp [intOf]; omega
  ·have hke : gs.take k = gs := List.take_of_length_le (by rw [HL.out]; omega)
   rw [hke] at ho
   obtain ⟨a', c', rfl, _, _⟩ := ownG_of ho _ rfl
   have hO := hidOf (own_mono1 ho (B' := w.heap.size) (by omega))
   have HB := hidOf (B0.out.trans (hbr.mono B0.out.size))
   clear ho hbr h0 h1 hs hsz hke
   go_wp2
   go_ret
   exact ⟨_, _, _, rfl, hO.out, HB.out⟩
open Go.RowKit Go.Maps Pl Il
/-- A store into the variable's own cells. -/
theorem NSt.setc {B N : Nat} {A : Na} {x y : Nt} {w : World} (h : NSt B N A x w) (o : Nat) (v : Value) (hb : NBox N A y (w.setCell ⟨N, o, none⟩ v)) (h1 : y.ln = x.ln) (h2 : y.gs = x.gs) : NSt B N A y (w.setCell ⟨N, o, none⟩ v) where
  box := hb
  ge := h.ge
  one := by
    rw [h1]
    exact h.one.of_block (by simp) (h.ne1.imp id fun l b off e => Below.heap_setCell w ⟨N, o, none⟩ v b (l b off e))
  cap := h.cap
  two := by rw [h2]; exact own_set h.two N o h.ne2 v
  ne1 := h.ne1
  ne2 := h.ne2
  apart := h.apart
theorem NSt.below {B N : Nat} {A : Na} {x : Nt} {w0 w u : World} (h : NSt B N A x w0) (hb : Below B w u) (o : Nat) (v : Value) : Below B w (u.setCell ⟨N, o, none⟩ v) := bl_set1' hb N o h.ge v
theorem NSt.keep {B N : Nat} {A : Na} {x : Nt} {w u : World} (h : NSt B N A x w) (hb : Below w.heap.size w u) : NSt B N A x u := ⟨h.box.keep hb, h.ge, h.one.keep hb, h.cap, ownsRow_keep h.two hb, h.ne1, h.ne2, h.apart⟩
theorem NSt.nin {B N : Nat} {A : Na} {x : Nt} {w : World} (h : NSt B N A x w) : NIn w A x := by
  obtain ⟨a2, c2, e2, _, h2⟩ := ownG_of h.two x.gs rfl
  injection e2 with e2 _ _
  exact ⟨h.one.ints, by rw [e2]; exact h2.gr⟩
/-- What is handed back of it. -/
theorem NSt.own {B N : Nat} {A : Na} {x : Nt} {w : World} (h : NSt B N A x w) : NOwn B w A x := by
  obtain ⟨a2, c2, e2, _, h2⟩ := ownG_of h.two x.gs rfl
  injection e2 with e2 _ _
  refine ⟨h.one, by rw [e2]; exact h2, ?_⟩
  rcases h.apart with h0 | h0
  · exact .inl h0
  · refine .inr (.inr fun b off b' off' e e' => ?_)
    have := h0 b off e
    rw [e'] at this
    rintro rfl
    exact this rfl
theorem wake1_nil (k : Int) : wakeRest [] k = [] ∧ wakeOut [] k = [] := by
  unfold wakeRest wakeOut
  constructor <;> split <;> simp
theorem wake1_cons {y : Int} {r : List Int} (h : lineL (y :: r) = true) : wakeRest (y :: r) 1 = r ∧ wakeOut (y :: r) 1 = [y] := by
  unfold wakeRest wakeOut wakeN
  rw [h]
  simp
  split <;> simp_all <;> omega
theorem NOth.set {N : Nat} {A A' : Na} {w u : World} (h : NOth N A w A' u) (o : Nat) (v : Value) : NOth N A w A' (u.setCell ⟨N, o, none⟩ v) := ⟨fun k hk hne hq => by rw [Below.heap_setCell u ⟨N, o, none⟩ v k hne]; exact h.blk k hk hne hq, h.line, h.row⟩
set_option maxHeartbeats 2000000 in
theorem placeTelling_fr (B N : Nat) (A : Na) (x : Nt) (w : World) (hS : NSt B N A x w) (hn : A.n ≤ 2097152) (hn' : A.n' ≤ 2097152) (hl : lineL x.ln = true) (hw : wfL x.ln) (hsp : 0 ≤ x.sp ∧ x.sp ≤ 1000000000) :
    Calls Try.prog 41 #[.pointer (some ⟨N, 0, none⟩)] w fun e w' => ∃ A', e = .returned (.int .i64 (oneM x).2) ∧ NSt B N A' (oneM x).1 w' ∧ Below B w w' ∧ NOth N A w A' w' := by
  go_enter Try.func41, Try.ntmps41
  go_wp2_with fail
  refine (grantFirst_fr B N A x 1 true w hS hn hn' hw).mono ?_
  rintro e w1 ⟨A', a, m, c, rfl, hS1, ho, _, hb1, hO⟩
  have HO := hidOf hO
  clear hO
  clear hS
  obtain ⟨pm, ln, gs, on, sp, tk⟩ := x
  cases ln with
  | cons y r =>
    obtain ⟨e1, e2⟩ := wake1_cons hl
    simp only [e1, e2, List.map_cons, List.map_nil] at hS1 ho
    have hm : m = 1 := by have := ho.ints.len; simpa using this.symm
    subst hm
    obtain ⟨⟨_, h' | ⟨b, off, rfl, hb, hcell⟩⟩, _⟩ := ho
    · omega
    have hc := hcell 0 (by omega)
    simp at hc
    have H1 := hidOf hS1
    have H2 := hidOf hb1
    clear hS1 hb1 hcell e1 e2
    go_wp2
    go_ret
    exact ⟨A', rfl, H1.out, H2.out, HO.out⟩
  | nil =>
    obtain ⟨e1, e2⟩ := wake1_nil 1
    simp only [e1, e2, List.map_nil, List.append_nil] at hS1 ho
    have hm : m = 0 := by have := ho.ints.len; simpa using this.symm
    subst hm
    obtain ⟨_, q0, q1, q2, q3, q4, q5, qf⟩ := id hS1.box
    simp only at q0 q1 q2 q3 q4 q5 hsp
    clear e1 e2 ho
    cases pm
    · have hX := hS1.setc (y := ⟨true, [], gs, on, sp, tk⟩) 0 (.bool true) (hS1.box.set0 (b := true)) rfl rfl
      have H1 := hidOf hX
      have H2 := hidOf (hS1.below hb1 0 (.bool true))
      clear hX hS1 hb1
      go_wp2
      go_ret
      exact ⟨A', rfl, H1.out, H2.out, HO.out.set 0 _⟩
    · have hX := hS1.setc (y := ⟨true, [], gs, on, sp + 1, tk⟩) 4 (.int .i64 (sp + 1)) (hS1.box.set4 (v := sp + 1)) rfl rfl
      have hY := hX.setc (y := ⟨true, [], gs, on, sp + 1, tk⟩) 0 (.bool true) (hX.box.set0 (b := true)) rfl rfl
      have H1 := hidOf hY
      have H2 := hidOf (hS1.below (hS1.below hb1 4 (.int .i64 (sp + 1))) 0 (.bool true))
      clear hX hY hS1 hb1
      go_wp2
      go_ret
      exact ⟨A', rfl, H1.out, H2.out, (HO.out.set 4 _).set 0 _⟩
open Go.RowKit Go.Maps Pl Il
/-- What a call on a notification holds on to: the argument's variable, the answer's, the copy's. -/
structure NCtx (w : World) (A : Na) (x : Nt) (u : World) : Prop where
  box0 : NBox w.heap.size A x u
  box1 : NBox (w.heap.size + 1) Na.zero Nt.zero u
  nin : NIn w A x
  below : Below w.heap.size w u
  sz : w.heap.size + 2 ≤ u.heap.size
section
variable {w : World} {A : Na} {x : Nt} {u u' : World}
theorem NCtx.keep {B : Nat} (h : NCtx w A x u) (hb : Below B u u') (hB : w.heap.size + 2 ≤ B) : NCtx w A x u' :=
  ⟨h.box0.below hb (by omega), h.box1.below hb (by omega), h.nin, h.below.trans (hb.mono (by omega)), Nat.le_trans h.sz hb.size⟩
theorem NCtx.kp (h : NCtx w A x u) (hb : Below u.heap.size u u') : NCtx w A x u' := h.keep hb h.sz
theorem NCtx.ninX (h : NCtx w A x u) : NIn u A x := h.nin.keep h.below
theorem nctx_new (hI : NIn w A x) : NCtx w A x ((w.alloc (.cells #[.bool x.pm, .slice A.a A.n A.c, .slice A.a' A.n' A.c', .int .i64 x.on, .int .i64 x.sp, .int .i64 x.tk] 27)).alloc (.cells #[.bool false, .slice none 0 0, .slice none 0 0, .int .i64 0, .int .i64 0, .int .i64 0] 27)) := by
  have s0 : (w.alloc (.cells #[.bool x.pm, .slice A.a A.n A.c, .slice A.a' A.n' A.c', .int .i64 x.on, .int .i64 x.sp, .int .i64 x.tk] 27)).heap.size = w.heap.size + 1 := by simp
  refine ⟨(NBox.new w A x _).alloc _, by rw [← s0]; exact NBox.newZ _ _, hI, bl_alloc (bl_alloc (Below.refl _ _) _) _, by simp⟩
end
/-- The copy in its variable. -/
theorem nst_new {B : Nat} {A : Na} {x : Nt} {w : World} (h : NRow B w A x) (hB : B ≤ w.heap.size) : NSt B w.heap.size A x (w.alloc (.cells #[.bool x.pm, .slice A.a A.n A.c, .slice A.a' A.n' A.c', .int .i64 x.on, .int .i64 x.sp, .int .i64 x.tk] 27)) := by
  have hb : Below w.heap.size w (w.alloc (.cells #[.bool x.pm, .slice A.a A.n A.c, .slice A.a' A.n' A.c', .int .i64 x.on, .int .i64 x.sp, .int .i64 x.tk] 27)) := bl_alloc (Below.refl _ _) _
  have ho := h.own
  refine ⟨NBox.new w A x _, hB, ho.one.keep hb, h.cap, ownsRow_keep h.two hb, ?_, fun e => Nat.lt_irrefl _ (h.two.lt _ e).2, ?_⟩
  · rcases ho.one.ints.row with h0 | ⟨b, off, e, hlt, _⟩
    · exact .inl h0
    · exact .inr fun b1 o1 e1 => by rw [e] at e1; cases e1; omega
  · obtain ⟨_, ⟨ea, en⟩ | ⟨g, cap, cur, ea, hB, hg, hr⟩⟩ := h.one
    · exact .inl en
    · refine .inr fun b off e e' => ?_
      injection ea with ea _ _
      rw [ea] at e
      cases e
      obtain ⟨_, ⟨ea', en'⟩ | ⟨g', cap', cur', ea', hB', hg', hr'⟩⟩ := h.two
      · rw [ea'] at e'; simp [Value.ownBlock] at e'
      · rw [ea'] at e'
        have : g' = g := by simpa [Value.ownBlock] using e'
        subst this
        rw [hg] at hg'
        simp at hg'
theorem nst_fin {w : World} {A A' : Na} {x y : Nt} {u : World} {N : Nat} (hC : NCtx w A x u) (hS : NSt (w.heap.size + 2) N A' y u) :
    NOwn w.heap.size ((((((u.setCell ⟨w.heap.size + 1, 0, none⟩ (.bool y.pm)).setCell ⟨w.heap.size + 1, 1, none⟩ (.slice A'.a A'.n A'.c)).setCell ⟨w.heap.size + 1, 2, none⟩ (.slice A'.a' A'.n' A'.c')).setCell ⟨w.heap.size + 1, 3, none⟩ (.int .i64 y.on)).setCell ⟨w.heap.size + 1, 4, none⟩ (.int .i64 y.sp)).setCell ⟨w.heap.size + 1, 5, none⟩ (.int .i64 y.tk)) A' y ∧ A'.n ≤ A'.c ∧ Below w.heap.size w ((((((u.setCell ⟨w.heap.size + 1, 0, none⟩ (.bool y.pm)).setCell ⟨w.heap.size + 1, 1, none⟩ (.slice A'.a A'.n A'.c)).setCell ⟨w.heap.size + 1, 2, none⟩ (.slice A'.a' A'.n' A'.c')).setCell ⟨w.heap.size + 1, 3, none⟩ (.int .i64 y.on)).setCell ⟨w.heap.size + 1, 4, none⟩ (.int .i64 y.sp)).setCell ⟨w.heap.size + 1, 5, none⟩ (.int .i64 y.tk)) := by
  have h := hS.own
  have hlt : w.heap.size + 1 < w.heap.size + 2 := by omega
  exact ⟨((((((h.far (w.heap.size + 1) 0 hlt _).far (w.heap.size + 1) 1 hlt _).far (w.heap.size + 1) 2 hlt _).far (w.heap.size + 1) 3 hlt _).far (w.heap.size + 1) 4 hlt _).far (w.heap.size + 1) 5 hlt _).mono (by omega), hS.cap, bl_set6' hC.below (w.heap.size + 1) (by omega) _ _ _ _ _ _⟩
theorem okN_parts {x : Nt} (h : okN x = true) : lineL x.ln = true ∧ lineL (whosL x.gs) = true ∧ x.ln.length ≤ 32 ∧ x.gs.length ≤ 32 ∧ (0 ≤ x.on ∧ x.on ≤ 1000000000) ∧ (0 ≤ x.sp ∧ x.sp ≤ 1000000000) ∧ (0 ≤ x.tk ∧ x.tk ≤ 1000000000) ∧ x.on = heldN x := by
  simp only [okN, Bool.and_eq_true, decide_eq_true_eq, waitL] at h
  obtain ⟨⟨⟨⟨⟨h1, h2⟩, _⟩, _⟩, ⟨h4, h5⟩, h6⟩, h7⟩ := h
  refine ⟨h1, h2, line_len h1, ?_, cnt_bd' h4, cnt_bd' h5, cnt_bd' h6, h7⟩
  have := line_len h2
  rwa [whos_len] at this
end Go.Proofs.Ytfgknbflgmblmaa
namespace Go.Proofs.Ytfgknbflgmblmaa
open Go.RowKit Pl Il
theorem find_cons (g : Int × Bool) (gs : List (Int × Bool)) (who : Int) : findG (g :: gs) who = if (g.1 == who) = true then some g.2 else findG gs who := by
  unfold findG
  rw [List.find?_cons]
  cases h : g.1 == who <;> simp
theorem find_mem : ∀ {gs : List (Int × Bool)} (_ : (whosL gs).Nodup) {h : Int × Bool} (_ : h ∈ gs), findG gs h.1 = some h.2
  | [], _, _, hm => by simp at hm
  | g :: gs, hd, h, hm => by
    simp only [whosL, List.map_cons, List.nodup_cons] at hd
    rw [find_cons]
    rcases List.mem_cons.1 hm with rfl | hm
    · simp
    · have hne : (g.1 == h.1) = false := by
        rw [beq_eq_false_iff_ne]
        intro e
        exact hd.1 (by rw [e]; exact List.mem_map.2 ⟨h, hm, rfl⟩)
      rw [hne]
      exact find_mem hd.2 hm
theorem mem_of_find {gs : List (Int × Bool)} {who : Int} {b : Bool} (h : findG gs who = some b) : (who, b) ∈ gs := by
  unfold findG at h
  rw [Option.map_eq_some_iff] at h
  obtain ⟨g, hg, rfl⟩ := h
  have h1 := List.mem_of_find?_eq_some hg
  have h2 := List.find?_some hg
  simp only [beq_iff_eq] at h2
  rw [← h2]
  exact h1
theorem find_has {gs : List (Int × Bool)} {who : Int} {b : Bool} (h : findG gs who = some b) : hasL (whosL gs) who = true := by
  have := mem_of_find h
  simp only [hasL, List.contains_eq_mem, decide_eq_true_eq, whosL]
  exact List.mem_map.2 ⟨_, this, rfl⟩
theorem find_one {gs : List (Int × Bool)} {who : Int} (hd : (whosL gs).Nodup) (h : hasL (whosL gs) who = true) : findG gs who = some (oneOf gs who) := by
  simp only [hasL, List.contains_eq_mem, decide_eq_true_eq, whosL] at h
  obtain ⟨g, hg, rfl⟩ := List.mem_map.1 h
  rw [find_mem hd hg]
  congr 1
  cases hb : g.2
  · have : ¬ (g.1, true) ∈ gs := by
      intro hm
      have h1 := find_mem hd hm
      have h2 := find_mem hd hg
      simp only at h1
      rw [h1, hb] at h2
      simp at h2
    simp [oneOf, oneOf.hasG, this]
  · have : (g.1, true) ∈ gs := by rw [← hb]; exact hg
    simp [oneOf, oneOf.hasG, this]
theorem less_without {gs : List (Int × Bool)} {who : Int} {b : Bool} (hd : (whosL gs).Nodup) (hf : findG gs who = some b) : (gs.filter fun h => !(h.1 == who && h.2 == b)) = lessG gs who := by
  unfold lessG
  apply List.filter_congr
  intro h hm
  cases e : h.1 == who
  · simp
  · have e' : h.1 = who := by simpa using e
    have := find_mem hd hm
    rw [e', hf] at this
    simp at this
    simp [this]
theorem less_snoc (gs : List (Int × Bool)) (g : Int × Bool) (who : Int) : lessG (gs ++ [g]) who = lessG gs who ++ (if (g.1 == who) = true then [] else [g]) := by
  unfold lessG
  rw [List.filter_append]
  cases h : g.1 == who <;> simp [h]
/-- The k-th is who's just where who is found. -/
theorem place_at {gs : List (Int × Bool)} (hd : (whosL gs).Nodup) {k : Nat} (hk : k < gs.length) {who : Int} : ((gg gs k).1 = who) ↔ placeL (whosL gs) who = (k : Int) := by
  have hkw : k < (whosL gs).length := by rw [whos_len]; exact hk
  have hg : (whosL gs)[k] = (gg gs k).1 := by rw [← whos_at]; simp [List.getD, List.getElem?_eq_getElem hkw]
  constructor
  · intro h
    have := find_nodup hd hkw
    rw [hg, h] at this
    unfold placeL
    rw [this]
  · intro h
    unfold placeL at h
    cases e : (whosL gs).findIdx? (· == who) with
    | none => rw [e] at h; simp at h
    | some i =>
      rw [e] at h
      simp only at h
      obtain rfl : i = k := by omega
      obtain ⟨_, h2, _⟩ := List.findIdx?_eq_some_iff_getElem.1 e
      rw [← hg]
      simpa using h2
theorem place_bound {xs : List Int} {who : Int} (h : hasL xs who = true) : ∃ k, k < xs.length ∧ placeL xs who = (k : Int) := by
  unfold placeL
  cases e : xs.findIdx? (· == who) with
  | none =>
    rw [List.findIdx?_eq_none_iff] at e
    simp only [hasL, List.contains_eq_mem, decide_eq_true_eq] at h
    have := e who h
    simp at this
  | some i =>
    obtain ⟨h1, _⟩ := List.findIdx?_eq_some_iff_getElem.1 e
    exact ⟨i, h1, rfl⟩
theorem place_minus {xs : List Int} {who : Int} (h : hasL xs who = false) : placeL xs who = -1 := (place_none (Nat.le_refl _) (by rw [List.take_length]; exact h)).symm
theorem gg_who {gs : List (Int × Bool)} (hd : (whosL gs).Nodup) {k : Nat} (hk : k < gs.length) {who : Int} (h : placeL (whosL gs) who = (k : Int)) : gg gs k = (who, oneOf gs who) := by
  have h1 := (place_at hd hk).2 h
  have hm : gg gs k ∈ gs := by rw [gg_eq hk]; exact List.getElem_mem _
  have h2 := find_mem hd hm
  rw [h1] at h2
  rw [find_one hd (find_has h2)] at h2
  simp at h2
  exact Prod.ext h1 h2.symm
theorem lessG_len (gs : List (Int × Bool)) (who : Int) : (lessG gs who).length ≤ gs.length := List.length_filter_le _ _
open Go.RowKit Pl Il
theorem place_neg {xs : List Int} {x : Int} : placeL xs x < 0 ↔ hasL xs x = false := by
  constructor
  · intro h
    cases hh : hasL xs x
    · rfl
    · obtain ⟨k, _, hk⟩ := place_bound hh
      omega
  · intro h
    rw [place_minus h]
    omega
open Go.RowKit Pl Il
/-- Without one who stands there once there is one less. -/
theorem lessG_one : ∀ {gs : List (Int × Bool)} {who : Int}, (whosL gs).Nodup → hasL (whosL gs) who = true → (lessG gs who).length + 1 = gs.length
  | [], who, _, h => by simp [whosL, hasL] at h
  | g :: gs, who, hd, h => by
    have hd' : g.1 ∉ whosL gs ∧ (whosL gs).Nodup := by simpa [whosL] using hd
    by_cases e : g.1 = who
    · subst e
      have hn : lessG gs g.1 = gs := by
        unfold lessG
        rw [List.filter_eq_self]
        intro p hp
        have : p.1 ≠ g.1 := fun e2 => hd'.1 (by rw [← e2]; exact List.mem_map.2 ⟨p, hp, rfl⟩)
        simp [this]
      unfold lessG at hn ⊢
      rw [List.filter_cons]
      simp [hn]
    · have h2 : hasL (whosL gs) who = true := by
        have h3 := h
        simp only [hasL, whosL, List.map_cons, List.contains_cons, Bool.or_eq_true] at h3
        rcases h3 with h3 | h3
        · exact absurd (by simpa using h3) (fun e2 => e (Eq.symm e2))
        · exact h3
      have ih := lessG_one hd'.2 h2
      unfold lessG at ih ⊢
      rw [List.filter_cons]
      simp [e]
      omega
/-- What a withdrawal leaves of one who was told. -/
structure WdF (x y : Nt) (v : Int) (one : Bool) : Prop where
  all : one = false → v = -1 ∧ y.pm = x.pm ∧ y.ln = x.ln
  first : one = true → 0 < x.ln.length → v = x.ln.getD 0 0 ∧ y.ln.length + 1 = x.ln.length ∧ y.gs.length = x.gs.length
  none : one = true → x.ln.length = 0 → v = -1 ∧ y.pm = true ∧ y.gs.length + 1 = x.gs.length
theorem wd_facts {x y : Nt} {who v c : Int} (h : withdrawM x who = (y, v, c)) :
    (c ≠ 0 → y = x) ∧ (c = 0 → hasL (whosL x.gs) who = true → (whosL x.gs).Nodup ∧ WdF x y v (oneOf x.gs who)) := by
  unfold withdrawM at h
  by_cases h1 : okN x = false
  · rw [if_pos h1] at h
    cases h
    exact ⟨fun _ => rfl, fun k => absurd k (by decide)⟩
  rw [if_neg h1] at h
  have hok : okN x = true := by simpa using h1
  have hp := hok
  simp only [okN, Bool.and_eq_true, waitL] at hp
  obtain ⟨⟨⟨⟨⟨hl1, hl2⟩, hap⟩, _⟩, _⟩, _⟩ := hp
  have hnd := nodup_line hl2
  by_cases h2 : hasL x.ln who = true
  · rw [if_pos h2] at h
    cases h
    refine ⟨fun k => absurd rfl k, fun _ hw => ?_⟩
    exfalso
    simp only [apartL, List.all_eq_true] at hap
    have := hap who (by simpa [hasL] using hw)
    rw [h2] at this
    cases this
  rw [if_neg h2] at h
  by_cases h3 : toldL x who = false
  · rw [if_pos h3] at h
    cases h
    exact ⟨fun _ => rfl, fun k => absurd k (by decide)⟩
  rw [if_neg h3] at h
  by_cases h4 : oneOf x.gs who = false
  · rw [if_pos h4] at h
    cases h
    exact ⟨fun k => absurd rfl k, fun _ _ => ⟨hnd, fun _ => ⟨rfl, rfl, rfl⟩, fun k => (by rw [h4] at k; cases k), fun k => (by rw [h4] at k; cases k)⟩⟩
  rw [if_neg h4] at h
  by_cases h5 : x.ln.length = 0 ∧ x.pm = true ∧ 1000000000 ≤ x.sp
  · rw [if_pos h5] at h
    cases h
    exact ⟨fun _ => rfl, fun k => absurd k (by decide)⟩
  rw [if_neg h5] at h
  injection h with e1 e2
  injection e2 with e2 e3
  subst e1 e2 e3
  refine ⟨fun k => absurd rfl k, fun _ hw => ⟨hnd, fun k => absurd k h4, fun _ hln => ?_, fun _ hln => ?_⟩⟩
  · have hone := lessG_one hnd hw
    cases e : x.ln with
    | nil => rw [e] at hln; simp at hln
    | cons z r =>
      simp only [oneM, List.length_append, List.length_cons, List.length_nil]
      refine ⟨?_, ?_, ?_⟩ <;> first | trivial | rfl | omega | (simp; omega) | simp
  · have hone := lessG_one hnd hw
    have e : x.ln = [] := List.length_eq_zero_iff.1 hln
    simp only [oneM, e]
    cases hpm : x.pm
    · simp only [Bool.false_eq_true, if_false]
      exact ⟨by first | trivial | rfl, by first | trivial | rfl, hone⟩
    · simp only [if_true]
      exact ⟨by first | trivial | rfl, by first | trivial | rfl, hone⟩
open Go.RowKit Pl Il
theorem ownsG_empty (w : World) : (w.alloc (.cells #[] 44)).ownsRow w.heap.size 44 2 (.slice (some ⟨w.heap.size, 0, none⟩) 0 0) 0 (gflat []) :=
  ⟨rfl, .inr ⟨w.heap.size, 0, #[], rfl, Nat.le_refl _, heap_alloc_new w _, Nat.le_refl _, Nat.zero_le _, rfl, rfl⟩⟩
set_option maxHeartbeats 2000000 in
theorem l5Copy_any (A : Na) (x : Nt) (w : World) (hI : NIn w A x) (hn : A.n ≤ 2097152) (hn' : A.n' ≤ 2097152) :
  Calls Try.prog 46 #[.agg #[.bool x.pm, .slice A.a A.n A.c, .slice A.a' A.n' A.c', .int .i64 x.on, .int .i64 x.sp, .int .i64 x.tk]] w fun e w' => ∃ a c a' c', e = .returned (.agg #[.bool x.pm, .slice a A.n c, .slice a' A.n' c', .int .i64 x.on, .int .i64 x.sp, .int .i64 x.tk]) ∧ NRow w.heap.size w' ⟨a, A.n, c, a', A.n', c'⟩ x ∧ Below w.heap.size w w' := by
 generalize hW0 : w.alloc (.cells #[.bool x.pm, .slice A.a A.n A.c, .slice A.a' A.n' A.c', .int .i64 x.on, .int .i64 x.sp, .int .i64 x.tk] 27) = W0
 generalize hW1 : W0.alloc (.cells #[.bool false, .slice none 0 0, .slice none 0 0, .int .i64 0, .int .i64 0, .int .i64 0] 27) = W1
 have b0 : Below w.heap.size w W0 := by subst hW0; exact bl_alloc (Below.refl _ _) _
 have b1 : Below w.heap.size w W1 := by subst hW1; exact bl_alloc b0 _
 have s0 : W0.heap.size = w.heap.size + 1 := by subst hW0; simp
 have s1 : W1.heap.size = w.heap.size + 2 := by subst hW1; simp [s0]
 have x0 : NBox w.heap.size A x W1 := by subst hW1 hW0; exact (NBox.new w A x _).alloc _
 have x1 : NBox (w.heap.size + 1) Na.zero Nt.zero W1 := by subst hW1; rw [← s0]; exact NBox.newZ W0 _
 have hI1 := hidOf (hI.keep b1)
 have HI := hidOf hI
 have X0 := hidOf x0
 have X1 := hidOf x1
 have HB := hidOf b1
 have S1 := hidOf s1
 clear hI x0 x1 b0 b1 s0 s1
 subst hW1 hW0
 go_enter Try.func46, Try.ntmps46
 go_wp2_with fail
 refine (l2Copy_any A.a A.n A.c x.ln _ hI1.out.ints hn).mono ?_
 rintro e w1 ⟨g1, c1, rfl, ho1, hb1⟩
 rw [S1.out] at ho1
 have x0 := X0.out.keep hb1
 have x1 := X1.out.keep hb1
 have hB1 := bl_trans HB.out hb1
 have y0 := x0.set1 (a := some ⟨g1, 0, none⟩) (n := A.n) (c := c1)
 have y1 := x1.far w.heap.size 1 (by omega) (.slice (some ⟨g1, 0, none⟩) A.n c1)
 have ho2 := own_far1 ho1 w.heap.size 1 (by omega) (.slice (some ⟨g1, 0, none⟩) A.n c1)
 have hB2 := bl_set1' hB1 w.heap.size 1 (Nat.le_refl _) (.slice (some ⟨g1, 0, none⟩) A.n c1)
 generalize hU : w1.setCell ⟨w.heap.size, 1, none⟩ (.slice (some ⟨g1, 0, none⟩) A.n c1) = U at y0 y1 ho2 hB2
 have hz := y1.lt
 have bE : Below U.heap.size U (U.alloc (.cells #[] 44)) := bl_alloc (Below.refl _ _) _
 obtain ⟨v, w2, hr, ho3, hg⟩ := append_grs U.heap.size _ 0 [] A.a' A.n' A.c' x.gs _ (ownsG_empty U) (by simp) ((HI.out.grs.keep hB2).keep bE) (by omega)
 rw [Nat.zero_add, List.nil_append] at ho3
 obtain ⟨a2, c2, rfl, _, _⟩ := ownG_of ho3 x.gs rfl
 have hb3 : Below U.heap.size U w2 := bE.grown hg (by simp) (fun k hk => by simp [Value.ownBlock] at hk; omega)
 have z0 := y0.keep hb3
 have z1 := y1.keep hb3
 have hN : NRow (w.heap.size + 2) w2 ⟨some ⟨g1, 0, none⟩, A.n, c1, a2, A.n', c2⟩ x := ⟨ownsRow_keep ho2 hb3, own_mono1 ho3 (by omega)⟩
 have hN2 := (hN.far w.heap.size 2 (by omega) (.slice a2 A.n' c2)).far6 (w.heap.size + 1) (by omega) (.bool x.pm) (.slice (some ⟨g1, 0, none⟩) A.n c1) (.slice a2 A.n' c2) (.int .i64 x.on) (.int .i64 x.sp) (.int .i64 x.tk)
 have hB3 := bl_set6' (bl_set1' (bl_trans hB2 hb3) w.heap.size 2 (Nat.le_refl _) (.slice a2 A.n' c2)) (w.heap.size + 1) (by omega) (.bool x.pm) (.slice (some ⟨g1, 0, none⟩) A.n c1) (.slice a2 A.n' c2) (.int .i64 x.on) (.int .i64 x.sp) (.int .i64 x.tk)
 obtain ⟨_, p0, p1, p2, p3, p4, p5, pf⟩ := id x0
 obtain ⟨_, q0, q1, q2, q3, q4, q5, qf⟩ := id y0
 obtain ⟨_, r0, r1, r2, r3, r4, r5, rf⟩ := id z0
 obtain ⟨_, t0, t1, t2, t3, t4, t5, tf⟩ := id z1
 have dq : ∀ o, (U.alloc o).cell? ⟨w.heap.size, 2, none⟩ = some (.slice A.a' A.n' A.c') := fun o => by rw [World.cell?_alloc_old _ _ _ (Nat.ne_of_lt (World.block_lt_of_cell? U _ q2))]; exact q2
 have HN := hidOf hN2
 have HB3 := hidOf hB3
 have Hr := hidOf hr
 clear hN hN2 hB3 ho3 hb3 z0 z1 y0 y1 ho1 ho2 hB1 hB2 hb1 x0 x1 hr hg bE hz S1 HI X0 X1 HB hI1
 go_wp2_with (at_builtin; refine wpList_append_run rfl _ _ 25 rfl _ _ _ rfl rfl Hr.out ?_)
 exact bodyPost_ret (v := .agg #[.bool x.pm, .slice (some ⟨g1, 0, none⟩) A.n c1, .slice a2 A.n' c2, .int .i64 x.on, .int .i64 x.sp, .int .i64 x.tk]) (by simp [results, Try.results46, go_sem, t0, t1, t2, t3, t4, t5]) rfl ⟨_, _, _, _, rfl, HN.out.mono (by omega), HB3.out⟩
end Go.Proofs.Ytfgknbflgmblmaa
namespace Go.Proofs.Ytfgknbflgmblmaa
open Go.RowKit Go.Maps Pl Il
abbrev intsV (xs : List Int) : List Value := xs.map (Value.int .i64)
section
variable {B B' : Nat} {w w' : World} {A : Na} {ln gs : List Int}
theorem row_own {a : Option Addr} {n c : Nat} {xs : List Int} (h : w.ownsRow B 3 1 (.slice a n c) n (intsV xs)) : Il.OwnAt B w a n xs ∧ n ≤ c := by
  have hcp := own_cap h
  obtain ⟨a', c', e, ho⟩ := own_of h xs rfl
  injection e with e1 _ _
  subst e1
  exact ⟨ho, hcp⟩
end
end Go.Proofs.Ytfgknbflgmblmaa
namespace Go.Proofs.Ytfgknbflgmblmaa
open Go.RowKit Pl Il
structure NSr (B N : Nat) (A : Na) (x : Nt) (w : World) : Prop where
  box : NBox N A x w
  ge : B ≤ N
  rows : NRow B w A x
  ne1 : (Value.slice A.a A.n A.c).ownBlock ≠ some N
  ne2 : (Value.slice A.a' A.n' A.c').ownBlock ≠ some N
theorem nsr_new {B : Nat} {A : Na} {x : Nt} {w : World} (h : NRow B w A x) (hB : B ≤ w.heap.size) : NSr B w.heap.size A x (w.alloc (.cells #[.bool x.pm, .slice A.a A.n A.c, .slice A.a' A.n' A.c', .int .i64 x.on, .int .i64 x.sp, .int .i64 x.tk] 27)) :=
  ⟨NBox.new w A x _, hB, h.keep (bl_alloc (Below.refl _ _) _), fun e => Nat.lt_irrefl _ (h.one.lt _ e).2, fun e => Nat.lt_irrefl _ (h.two.lt _ e).2⟩
section
variable {B N : Nat} {A : Na} {x y : Nt} {w u : World}
theorem NRow.set (h : NRow B w A x) (N o : Nat) (h1 : (Value.slice A.a A.n A.c).ownBlock ≠ some N) (h2 : (Value.slice A.a' A.n' A.c').ownBlock ≠ some N) (v : Value) : NRow B (w.setCell ⟨N, o, none⟩ v) A x := ⟨own_set h.one N o h1 v, own_set h.two N o h2 v⟩
theorem NSr.keep (h : NSr B N A x w) (hb : Below w.heap.size w u) : NSr B N A x u := ⟨h.box.keep hb, h.ge, h.rows.keep hb, h.ne1, h.ne2⟩
theorem NSr.setc (h : NSr B N A x w) (o : Nat) (v : Value) (hb : NBox N A y (w.setCell ⟨N, o, none⟩ v)) (h1 : y.ln = x.ln) (h2 : y.gs = x.gs) : NSr B N A y (w.setCell ⟨N, o, none⟩ v) :=
  ⟨hb, h.ge, ⟨by rw [h1]; exact own_set h.rows.one N o h.ne1 v, by rw [h2]; exact own_set h.rows.two N o h.ne2 v⟩, h.ne1, h.ne2⟩
theorem NSr.line {a : Option Addr} {n c : Nat} {xs : List Int} (h : NSr B N A x w) (hr : w.ownsRow B 3 1 (.slice a n c) n (intsV xs)) (h1 : (Value.slice a n c).ownBlock ≠ some N) :
    NSr B N { A with a := a, n := n, c := c } { x with ln := xs } (w.setCell ⟨N, 1, none⟩ (.slice a n c)) :=
  ⟨h.box.set1.lists xs x.gs, h.ge, ⟨own_set hr N _ h1 _, own_set h.rows.two N _ h.ne2 _⟩, h1, h.ne2⟩
theorem NSr.below {w0 : World} (h : NSr B N A x w0) (hb : Below B w u) (o : Nat) (v : Value) : Below B w (u.setCell ⟨N, o, none⟩ v) := bl_set1' hb N o h.ge v
end
/-- It is handed back, its lists rows. -/
def NOutR (w : World) (y : Nt) (r : List Value) (e : Ending) (w' : World) : Prop :=
  ∃ A' : Na, e = .returned (.tuple (#[.agg #[.bool y.pm, .slice A'.a A'.n A'.c, .slice A'.a' A'.n' A'.c', .int .i64 y.on, .int .i64 y.sp, .int .i64 y.tk]] ++ r.toArray)) ∧ NRow w.heap.size w' A' y ∧ A'.n ≤ A'.c ∧ Below w.heap.size w w'
theorem NOutR.weak {w : World} {y : Nt} {r : List Value} {e : Ending} {w' : World} (h : NOutR w y r e w') : NOutP w y r e w' := by
  obtain ⟨A', he, hr, h1⟩ := h
  exact ⟨A', he, hr.own, h1⟩
def NOutTR (w : World) (y : Nt) (l : List Int) (r : Int) (e : Ending) (w' : World) : Prop :=
  ∃ (A' : Na) (a : Option Addr) (m c : Nat), e = .returned (.tuple #[.agg #[.bool y.pm, .slice A'.a A'.n A'.c, .slice A'.a' A'.n' A'.c', .int .i64 y.on, .int .i64 y.sp, .int .i64 y.tk], .slice a m c, .int .i64 r]) ∧ NRow w.heap.size w' A' y ∧ A'.n ≤ A'.c ∧ Il.OwnAt w.heap.size w' a m l ∧ Apart3 A'.a A'.n A'.a' A'.n' a m ∧ Below w.heap.size w w'
theorem NOutTR.weak {w : World} {y : Nt} {l : List Int} {r : Int} {e : Ending} {w' : World} (h : NOutTR w y l r e w') : NOutT w y l r e w' := by
  obtain ⟨A', a, m, c, he, hr, h1⟩ := h
  exact ⟨A', a, m, c, he, hr.own, h1⟩
theorem nsr_finR {w : World} {A A' : Na} {x y : Nt} {u : World} (hC : NCtx w A x u) (hR : NRow (w.heap.size + 2) u A' y) :
    NRow w.heap.size ((((((u.setCell ⟨w.heap.size + 1, 0, none⟩ (.bool y.pm)).setCell ⟨w.heap.size + 1, 1, none⟩ (.slice A'.a A'.n A'.c)).setCell ⟨w.heap.size + 1, 2, none⟩ (.slice A'.a' A'.n' A'.c')).setCell ⟨w.heap.size + 1, 3, none⟩ (.int .i64 y.on)).setCell ⟨w.heap.size + 1, 4, none⟩ (.int .i64 y.sp)).setCell ⟨w.heap.size + 1, 5, none⟩ (.int .i64 y.tk)) A' y ∧ A'.n ≤ A'.c ∧ Below w.heap.size w ((((((u.setCell ⟨w.heap.size + 1, 0, none⟩ (.bool y.pm)).setCell ⟨w.heap.size + 1, 1, none⟩ (.slice A'.a A'.n A'.c)).setCell ⟨w.heap.size + 1, 2, none⟩ (.slice A'.a' A'.n' A'.c')).setCell ⟨w.heap.size + 1, 3, none⟩ (.int .i64 y.on)).setCell ⟨w.heap.size + 1, 4, none⟩ (.int .i64 y.sp)).setCell ⟨w.heap.size + 1, 5, none⟩ (.int .i64 y.tk)) := by
  have hlt : w.heap.size + 1 < w.heap.size + 2 := by omega
  exact ⟨(hR.far6 (w.heap.size + 1) hlt _ _ _ _ _ _).mono (by omega), hR.cap, bl_set6' hC.below (w.heap.size + 1) (by omega) _ _ _ _ _ _⟩
end Go.Proofs.Ytfgknbflgmblmaa
