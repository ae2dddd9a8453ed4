/-
  The program's notifications: a telling placed, a grant dropped and passed on.
-/
import Derived.Test.YtfgknbflgmblmaaV5
import Derived.Defers
namespace Go.Proofs.Ytfgknbflgmblmaa
open Go.RowKit Go.Maps Pl Il

/-- A store into the variable's own cells. -/
theorem NSt.setc {B N : Nat} {A : Na} {x y : Nt} {w : World} (h : NSt B N A x w) (o : Nat) (v : Value) (hb : NBox N A y (w.setCell ⟨N, o, none⟩ v)) (h1 : y.ln = x.ln) (h2 : y.gs = x.gs) : NSt B N A y (w.setCell ⟨N, o, none⟩ v) where
  box := hb
  ge := h.ge
  one := by
    rw [h1]
    exact h.one.of_block (by simp) (h.ne1.imp id fun l b off e => Below.heap_setCell w ⟨N, o, none⟩ v b (l b off e))
  cap := h.cap
  two := by rw [h2]; exact own_set h.two N o h.ne2 v
  ne1 := h.ne1
  ne2 := h.ne2
  apart := h.apart
theorem NSt.below {B N : Nat} {A : Na} {x : Nt} {w0 w u : World} (h : NSt B N A x w0) (hb : Below B w u) (o : Nat) (v : Value) : Below B w (u.setCell ⟨N, o, none⟩ v) := bl_set1' hb N o h.ge v
theorem NSt.keep {B N : Nat} {A : Na} {x : Nt} {w u : World} (h : NSt B N A x w) (hb : Below w.heap.size w u) : NSt B N A x u := ⟨h.box.keep hb, h.ge, h.one.keep hb, h.cap, ownsRow_keep h.two hb, h.ne1, h.ne2, h.apart⟩
theorem NSt.nin {B N : Nat} {A : Na} {x : Nt} {w : World} (h : NSt B N A x w) : NIn w A x := by
  obtain ⟨a2, c2, e2, _, h2⟩ := ownG_of h.two x.gs rfl
  injection e2 with e2 _ _
  exact ⟨h.one.ints, by rw [e2]; exact h2.gr⟩
/-- What is handed back of it. -/
theorem NSt.own {B N : Nat} {A : Na} {x : Nt} {w : World} (h : NSt B N A x w) : NOwn B w A x := by
  obtain ⟨a2, c2, e2, _, h2⟩ := ownG_of h.two x.gs rfl
  injection e2 with e2 _ _
  refine ⟨h.one, by rw [e2]; exact h2, ?_⟩
  rcases h.apart with h0 | h0
  · exact .inl h0
  · refine .inr (.inr fun b off b' off' e e' => ?_)
    have := h0 b off e
    rw [e'] at this
    rintro rfl
    exact this rfl
theorem wake1_nil (k : Int) : wakeRest [] k = [] ∧ wakeOut [] k = [] := by
  unfold wakeRest wakeOut
  constructor <;> split <;> simp
theorem wake1_cons {y : Int} {r : List Int} (h : lineL (y :: r) = true) : wakeRest (y :: r) 1 = r ∧ wakeOut (y :: r) 1 = [y] := by
  unfold wakeRest wakeOut wakeN
  rw [h]
  simp
  split <;> simp_all <;> omega
theorem NOth.set {N : Nat} {A A' : Na} {w u : World} (h : NOth N A w A' u) (o : Nat) (v : Value) : NOth N A w A' (u.setCell ⟨N, o, none⟩ v) := ⟨fun k hk hne hq => by rw [Below.heap_setCell u ⟨N, o, none⟩ v k hne]; exact h.blk k hk hne hq, h.line, h.row⟩
set_option maxHeartbeats 2000000 in
theorem placeTelling_fr (B N : Nat) (A : Na) (x : Nt) (w : World) (hS : NSt B N A x w) (hn : A.n ≤ 2097152) (hn' : A.n' ≤ 2097152) (hl : lineL x.ln = true) (hw : wfL x.ln) (hsp : 0 ≤ x.sp ∧ x.sp ≤ 1000000000) :
    Calls Try.prog 41 #[.pointer (some ⟨N, 0, none⟩)] w fun e w' => ∃ A', e = .returned (.int .i64 (oneM x).2) ∧ NSt B N A' (oneM x).1 w' ∧ Below B w w' ∧ NOth N A w A' w' := by
  go_enter Try.func41, Try.ntmps41
  go_wp2_with fail
  refine (grantFirst_fr B N A x 1 true w hS hn hn' hw).mono ?_
  rintro e w1 ⟨A', a, m, c, rfl, hS1, ho, _, hb1, hO⟩
  have HO := hidOf hO
  clear hO
  clear hS
  obtain ⟨pm, ln, gs, on, sp, tk⟩ := x
  cases ln with
  | cons y r =>
    obtain ⟨e1, e2⟩ := wake1_cons hl
    simp only [e1, e2, List.map_cons, List.map_nil] at hS1 ho
    have hm : m = 1 := by have := ho.ints.len; simpa using this.symm
    subst hm
    obtain ⟨⟨_, h' | ⟨b, off, rfl, hb, hcell⟩⟩, _⟩ := ho
    · omega
    have hc := hcell 0 (by omega)
    simp at hc
    have H1 := hidOf hS1
    have H2 := hidOf hb1
    clear hS1 hb1 hcell e1 e2
    go_wp2
    go_ret
    exact ⟨A', rfl, H1.out, H2.out, HO.out⟩
  | nil =>
    obtain ⟨e1, e2⟩ := wake1_nil 1
    simp only [e1, e2, List.map_nil, List.append_nil] at hS1 ho
    have hm : m = 0 := by have := ho.ints.len; simpa using this.symm
    subst hm
    obtain ⟨_, q0, q1, q2, q3, q4, q5, qf⟩ := id hS1.box
    simp only at q0 q1 q2 q3 q4 q5 hsp
    clear e1 e2 ho
    cases pm
    · have hX := hS1.setc (y := ⟨true, [], gs, on, sp, tk⟩) 0 (.bool true) (hS1.box.set0 (b := true)) rfl rfl
      have H1 := hidOf hX
      have H2 := hidOf (hS1.below hb1 0 (.bool true))
      clear hX hS1 hb1
      go_wp2
      go_ret
      exact ⟨A', rfl, H1.out, H2.out, HO.out.set 0 _⟩
    · have hX := hS1.setc (y := ⟨true, [], gs, on, sp + 1, tk⟩) 4 (.int .i64 (sp + 1)) (hS1.box.set4 (v := sp + 1)) rfl rfl
      have hY := hX.setc (y := ⟨true, [], gs, on, sp + 1, tk⟩) 0 (.bool true) (hX.box.set0 (b := true)) rfl rfl
      have H1 := hidOf hY
      have H2 := hidOf (hS1.below (hS1.below hb1 4 (.int .i64 (sp + 1))) 0 (.bool true))
      clear hX hY hS1 hb1
      go_wp2
      go_ret
      exact ⟨A', rfl, H1.out, H2.out, (HO.out.set 4 _).set 0 _⟩
theorem placeTelling_any (B N : Nat) (A : Na) (x : Nt) (w : World) (hS : NSt B N A x w) (hn : A.n ≤ 2097152) (hn' : A.n' ≤ 2097152) (hl : lineL x.ln = true) (hw : wfL x.ln) (hsp : 0 ≤ x.sp ∧ x.sp ≤ 1000000000) :
    Calls Try.prog 41 #[.pointer (some ⟨N, 0, none⟩)] w fun e w' => ∃ A', e = .returned (.int .i64 (oneM x).2) ∧ NSt B N A' (oneM x).1 w' ∧ Below B w w' :=
  (placeTelling_fr B N A x w hS hn hn' hl hw hsp).mono fun _ _ ⟨A', h1, h2, h3, _⟩ => ⟨A', h1, h2, h3⟩
end Go.Proofs.Ytfgknbflgmblmaa
