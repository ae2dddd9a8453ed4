/-
  What a change of the table makes of two bodies.
-/
import Derived.Test.YtbbhaekmjnincaaBX2
import Derived.Test.YtbbhaekmjnincaaF0
namespace Go.Proofs.Ytbbhaekmjnincaa
open Go.RowKit Go.Maps Pl Il

theorem ba_extC {a b : ByteArray} (h : a.toList = b.toList) : a = b := by
  rw [ByteArray.toList_eq, ByteArray.toList_eq] at h
  cases a with
  | mk x => cases b with
    | mk y => simp only at h; rw [Array.toList_inj.1 h]
theorem ok_cases {k n : Int} {s : ByteArray} (h : okB k n s = true) : (k = 1 ∧ s = ⟨#[]⟩ ∧ -999999999 ≤ n ∧ n ≤ 999999999) ∨ (k = 2 ∧ n = 0 ∧ s.size ≤ 40) := by
  by_cases h1 : k = 1
  · subst h1
    simp only [okB, if_true, Bool.and_eq_true, List.isEmpty_iff, okNum, decide_eq_true_eq] at h
    exact .inl ⟨rfl, ba_extC (by rw [h.1, ByteArray.toList_eq]), h.2.1, h.2.2⟩
  · by_cases h2 : k = 2
    · subst h2
      simp [okB, plainB] at h
      exact .inr ⟨rfl, h.1, h.2.1⟩
    · simp [okB, h1, h2] at h
theorem okB_num (b : Int) : okB 1 b ⟨#[]⟩ = okNum b := by
  have : (⟨#[]⟩ : ByteArray).toList = [] := by rw [ByteArray.toList_eq]
  simp [okB, this]
theorem okB_txt (c : ByteArray) : okB 2 0 c = plainB c := by simp [okB]
/-- What comes back of a change's method. -/
def AftP (k n : Int) (s : ByteArray) (kind k' n' : Int) (s' : ByteArray) (e : Ending) : Prop :=
  (chRaw k n s kind k' n' s' = none ∧ ∃ v, e = .returned (.tuple #[v, .bool false])) ∨
  (∃ b, chRaw k n s kind k' n' s' = some (1, b, ⟨#[]⟩) ∧ e = .returned (.tuple #[.iface 86 (.int .i64 b), .bool true])) ∨
  (∃ c, c.size ≤ maxLen ∧ chRaw k n s kind k' n' s' = some (2, 0, c) ∧ e = .returned (.tuple #[.iface 87 (.string c), .bool true]))
theorem aft_is {k n : Int} {s : ByteArray} {kind k' n' : Int} {s' : ByteArray} {a b : Int} {c : ByteArray} (h : okB a b c = true) (hr : chRaw k n s kind k' n' s' = some (a, b, c)) : AftP k n s kind k' n' s' (.returned (.tuple #[.iface (tyOf a) (valOf a b c), .bool true])) := by
  rcases ok_cases h with ⟨rfl, rfl, _⟩ | ⟨rfl, rfl, hc⟩
  · exact .inr (.inl ⟨b, hr, rfl⟩)
  · exact .inr (.inr ⟨c, by unfold maxLen; omega, hr, rfl⟩)
/-- The contract of a function of the table. -/
def FunP (k n : Int) (s : ByteArray) (kind k' n' : Int) (s' : ByteArray) (f : Nat) : Prop := ∀ u : World, okB k n s = true → okB k' n' s' = true →
  Calls Try.prog f #[.agg #[.iface (tyOf k) (valOf k n s), .iface (tyOf k') (valOf k' n' s')]] u fun e u' => AftP k n s kind k' n' s' e ∧ Below u.heap.size u u'
theorem fun_1 (k n : Int) (s : ByteArray) (k' n' : Int) (s' : ByteArray) : FunP k n s 1 k' n' s' 44 := by
  intro u h h'
  exact (put_any _ _ u).mono fun e u' ⟨he, hb⟩ => ⟨by rw [he]; exact aft_is h' (raw1 k n s k' n' s'), hb⟩
theorem wrap_sum' {n m : Int} (h1 : -999999999 ≤ n) (h2 : n ≤ 999999999) (h3 : -999999999 ≤ m) (h4 : m ≤ 999999999) : IntKind.i64.wrap (n + m) = n + m := by
  rw [IntKind.wrap_i64]; omega
theorem fun_2 (k n : Int) (s : ByteArray) (k' n' : Int) (s' : ByteArray) : FunP k n s 2 k' n' s' 45 := by
  intro u h h'
  rcases ok_cases h with ⟨rfl, rfl, a1, a2⟩ | ⟨rfl, rfl, a1⟩
  · rcases ok_cases h' with ⟨rfl, rfl, b1, b2⟩ | ⟨rfl, rfl, b1⟩
    · exact (add_nn n n' u (wrap_sum' a1 a2 b1 b2)).mono fun e u' ⟨he, hb⟩ => ⟨.inr (.inl ⟨n + n', raw2 ⟨rfl, rfl⟩, he⟩), hb⟩
    · exact (add_nt n s' u).mono fun e u' ⟨he, hb⟩ => ⟨.inl ⟨raw2n (by omega), he⟩, hb⟩
  · have hv : ∃ r b, ∀ u, (Instr.typeAssert (.iface (tyOf k') (valOf k' n' s')) 62 86 true).run Try.prog u = .ok (.tuple #[.int .i64 r, .bool b]) u := by
      rcases ok_cases h' with ⟨rfl, rfl, _⟩ | ⟨rfl, rfl, _⟩
      · exact ⟨_, _, as_nn n'⟩
      · exact ⟨_, _, as_nt s'⟩
    exact (add_t s _ u hv).mono fun e u' ⟨he, hb⟩ => ⟨.inl ⟨raw2n (by omega), he⟩, hb⟩
theorem fun_3 (k n : Int) (s : ByteArray) (k' n' : Int) (s' : ByteArray) : FunP k n s 3 k' n' s' 46 := by
  intro u h h'
  rcases ok_cases h with ⟨rfl, rfl, a1, a2⟩ | ⟨rfl, rfl, a1⟩
  · rcases ok_cases h' with ⟨rfl, rfl, b1, b2⟩ | ⟨rfl, rfl, b1⟩
    · exact (join_n n _ ⟨#[]⟩ false u (by decide) (as_tn n')).mono fun e u' ⟨he, hb⟩ => ⟨.inl ⟨raw3n (by omega), he⟩, hb⟩
    · exact (join_n n _ s' true u b1 (as_tt s')).mono fun e u' ⟨he, hb⟩ => ⟨.inl ⟨raw3n (by omega), he⟩, hb⟩
  · rcases ok_cases h' with ⟨rfl, rfl, b1, b2⟩ | ⟨rfl, rfl, b1⟩
    · exact (join_tn s n' u a1).mono fun e u' ⟨he, hb⟩ => ⟨.inl ⟨raw3n (by omega), he⟩, hb⟩
    · exact (join_tt s s' u a1 b1).mono fun e u' ⟨he, hb⟩ => ⟨.inr (.inr ⟨s ++ s', by rw [ByteArray.size_append]; unfold maxLen; omega, raw3 ⟨rfl, rfl⟩, he⟩), hb⟩
theorem fun_4 (k n : Int) (s : ByteArray) (k' n' : Int) (s' : ByteArray) : FunP k n s 4 k' n' s' 47 := by
  intro u h h'
  refine (most_any k n s k' n' s' u h h').mono fun e u' ⟨he, hb⟩ => ⟨?_, hb⟩
  rw [he]
  cases hl : ltB k n s k' n' s'
  · cases hr : ltB k' n' s' k n s
    · obtain ⟨rfl, rfl, hs⟩ := lt_tri h h' hl hr
      have := ba_extC hs
      subst this
      exact aft_is h (raw4n hr)
    · exact aft_is h (raw4y hr)
  · exact aft_is h' (raw4n (lt_asymm hl))
/-- A look into the table, whatever the kind. -/
theorem tab_any (k n : Int) (s : ByteArray) (k' n' : Int) (s' : ByteArray) (w : World) (mb m : Nat) (kind : Int) (h : w.ownsMap Try.prog 3 fnR mb m tabD) (hk : (Lit.int .i64 kind).wf = true) :
    ∃ v b, (Instr.lookup 67 (.map (some mb)) (.int .i64 kind) true).run Try.prog w = .ok (.tuple #[v, .bool b]) w ∧
      ((b = false ∧ chRaw k n s kind k' n' s' = none) ∨ (b = true ∧ ∃ f, v = .func (.func f) #[] #[] ∧ (∀ args u, (callFunc f args).run Try.prog u = .ok (.enter f args) u) ∧ FunP k n s kind k' n' s' f)) := by
  by_cases h1 : kind = 1
  · subst h1; exact ⟨_, _, tab_1 w mb m h, .inr ⟨rfl, _, rfl, fun _ _ => by kernel_rfl, fun_1 k n s k' n' s'⟩⟩
  by_cases h2 : kind = 2
  · subst h2; exact ⟨_, _, tab_2 w mb m h, .inr ⟨rfl, _, rfl, fun _ _ => by kernel_rfl, fun_2 k n s k' n' s'⟩⟩
  by_cases h3 : kind = 3
  · subst h3; exact ⟨_, _, tab_3 w mb m h, .inr ⟨rfl, _, rfl, fun _ _ => by kernel_rfl, fun_3 k n s k' n' s'⟩⟩
  by_cases h4 : kind = 4
  · subst h4; exact ⟨_, _, tab_4 w mb m h, .inr ⟨rfl, _, rfl, fun _ _ => by kernel_rfl, fun_4 k n s k' n' s'⟩⟩
  obtain ⟨v, hv⟩ := tab_0 w mb m kind h hk h1 h2 h3 h4
  exact ⟨v, _, hv, .inl ⟨rfl, raw0 h1 h2 h3 h4⟩⟩
theorem body_two (k n : Int) (s : ByteArray) (w : World) (hm : s.size ≤ maxLen) :
    Calls Try.prog 29 #[.agg #[.int .i64 k, .int .i64 n, .string s]] w fun e w' =>
      (∃ v, e = .returned (.tuple #[v, .bool (okB k n s)]) ∧ (okB k n s = true → v = .iface (tyOf k) (valOf k n s))) ∧ Below w.heap.size w w' := by
  refine (body_any k n s w hm).mono fun e w' ⟨hc, hb⟩ => ⟨?_, hb⟩
  rcases hc with ⟨h, rfl⟩ | ⟨h, rfl⟩
  · exact ⟨_, by rw [h]; rfl, fun _ => rfl⟩
  · exact ⟨_, by rw [h]; rfl, fun h' => by rw [h] at h'; cases h'⟩
end Go.Proofs.Ytbbhaekmjnincaa
