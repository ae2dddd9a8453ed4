/-
  The law's own bytes with one ahead of them: what append makes.
-/
import Derived.Test.YtpfnbnlipfobiafE5
import Derived.Test.YtpfnbnlipfobiafF0
import Derived.Deep.AppendSrc
import Derived.Deep.AppendLies
namespace Go.Proofs.Ytpfnbnlipfobiaf
open Go.RowKit Pl Dr

theorem wpList_append_run {P : Program} {ops : Array Oper} {rest : List Oper} {o : Oper} {a : Act} {Q : Exit → Act → World → Prop} {w w' : World} (hgd : o.guard = none) (s x : Operand) (t : TypeId)
    (ho : o.op = .call { callee := .builtin .append, args := #[s, x], argTypes := #[t, t] }) (v u v' : Value) (hs : a.eval s = v) (hx : a.eval x = u)
    (hr : (Builtin.append_ #[t, t] o.type #[v, u]).run P w = .ok v' w') (h : wpList P ops Q rest (a.put o.dst v') w') : wpList P ops Q (o :: rest) a w :=
  wpList_plain hgd fun _ hK => by
    unfold Oper.wp execOp
    simp only [ho, resolve, invoke, builtin, Sem.run_bind, Sem.run_pure, Result.andThen_ok, List.map_toArray, List.map_cons, List.map_nil, hs, hx, hr]
    exact hK _ _ h

theorem info5 : (Try.prog.info? 5).map (fun i => (i.zero, i.size, i.bytes)) = some (some (.int .u8 0), 1, 1) := by kernel_rfl

theorem row_bytes {w : World} {g n cap : Nat} {xs : List Value} (h : w.ownsRow 0 5 1 (.slice (some ⟨g, 0, none⟩) n cap) n xs) (hx : ∀ v ∈ xs, ∃ m : Int, v = .int .u8 m ∧ 0 ≤ m ∧ m ≤ 255) :
    ∀ i, i < n → ∃ m : Int, w.cell? ⟨g, 0 + i, none⟩ = some (.int .u8 m) ∧ 0 ≤ m ∧ m ≤ 255 := by
  intro i hi
  obtain ⟨hlen, ⟨hv, _⟩ | ⟨g', cap', cur, hv, _, hg, hc1, _, hsz, htake⟩⟩ := h
  · cases hv
  · cases hv
    have hi' : i < xs.length := by rw [hlen]; omega
    obtain ⟨m, hm, m0, m1⟩ := hx xs[i] (List.getElem_mem _)
    refine ⟨m, ?_, m0, m1⟩
    rw [← hm]
    have hcur : cur[i]? = some xs[i] := by
      have e : xs[i]? = (cur.toList.take (n * 1))[i]? := by rw [htake]
      rw [List.getElem?_eq_getElem hi'] at e
      rw [List.getElem?_take_of_lt (by omega)] at e
      simpa using e.symm
    rw [Nat.zero_add, cell_of_row w g i cur 5 (0, 0) hg]
    exact hcur

/-- The bytes of a slice that is read, as cells. -/
theorem cells_of {w : World} {b off len : Nat} (hc : ∀ i, i < len → ∃ n : Int, w.cell? ⟨b, off + i, none⟩ = some (.int .u8 n) ∧ 0 ≤ n ∧ n ≤ 255) :
    ∃ news : List Value, news.length = len ∧ (∀ j u, news[j]? = some u → w.cell? ⟨b, off + j, none⟩ = some u) ∧ ∀ v ∈ news, ∃ m : Int, v = .int .u8 m ∧ 0 ≤ m ∧ m ≤ 255 := by
  induction len with
  | zero => exact ⟨[], rfl, fun j u h => by simp at h, fun v h => by cases h⟩
  | succ n ih =>
    obtain ⟨news, hl, hn, hv⟩ := ih (fun i hi => hc i (by omega))
    obtain ⟨m, hm, m0, m1⟩ := hc n (by omega)
    refine ⟨news ++ [.int .u8 m], by simp [hl], fun j u h => ?_, fun v h => ?_⟩
    · by_cases hj : j < news.length
      · rw [List.getElem?_append_left hj] at h; exact hn j u h
      · rw [List.getElem?_append_right (by omega)] at h
        have hj' : j = n := by
          rcases Nat.lt_or_ge (j - news.length) 1 with h1 | h1
          · omega
          · rw [List.getElem?_eq_none (by simpa using h1)] at h; cases h
        subst hj'
        rw [hl, Nat.sub_self] at h
        simp at h
        rw [← h]; exact hm
    · rcases List.mem_append.1 h with h | h
      · exact hv v h
      · simp at h; exact ⟨m, h, m0, m1⟩

theorem append3 (a : Option Addr) (len cap : Nat) (w : World) (hB : Bytes w.heap.size w a len cap) (hl : len ≤ 1048576) :
    ∃ (g cap' : Nat) (w' : World), (Builtin.append_ #[22, 22] 22 #[.slice (some ⟨w.heap.size, 0, none⟩) 1 1, .slice a len cap]).run Try.prog (w.alloc (.cells #[.int .u8 3] 5)) = .ok (.slice (some ⟨g, 0, none⟩) (1 + len) cap') w' ∧
      Bytes w'.heap.size w' (some ⟨g, 0, none⟩) (1 + len) cap' ∧ Below w.heap.size w w' := by
  obtain ⟨i, hi, hz0, hz1, hz2⟩ := info_parts info5
  have hb0 : Below w.heap.size w (w.alloc (.cells #[.int .u8 3] 5)) := bl_alloc (Below.refl _ _) _
  have hown : (w.alloc (.cells #[.int .u8 3] 5)).ownsRow 0 5 1 (.slice (some ⟨w.heap.size, 0, none⟩) 1 1) 1 [.int .u8 3] :=
    ⟨rfl, .inr ⟨w.heap.size, 1, #[.int .u8 3], rfl, Nat.zero_le _, (heap_alloc_new w _), Nat.le_refl _, by decide, rfl, rfl⟩⟩
  have short : ∀ (u : Value) (hu : (Builtin.append_ #[22, 22] 22 #[.slice (some ⟨w.heap.size, 0, none⟩) 1 1, u]).run Try.prog (w.alloc (.cells #[.int .u8 3] 5)) = .ok (.slice (some ⟨w.heap.size, 0, none⟩) 1 1) (w.alloc (.cells #[.int .u8 3] 5))),
      ∃ (g cap' : Nat) (w' : World), (Builtin.append_ #[22, 22] 22 #[.slice (some ⟨w.heap.size, 0, none⟩) 1 1, u]).run Try.prog (w.alloc (.cells #[.int .u8 3] 5)) = .ok (.slice (some ⟨g, 0, none⟩) (1 + 0) cap') w' ∧
      Bytes w'.heap.size w' (some ⟨g, 0, none⟩) (1 + 0) cap' ∧ Below w.heap.size w w' := fun u hu =>
    ⟨w.heap.size, 1, _, hu, ⟨by omega, by decide, .inr ⟨w.heap.size, 0, rfl, by simp, by simp, row_bytes hown (fun v hv => by simp at hv; exact ⟨3, hv, by decide, by decide⟩)⟩⟩, hb0⟩
  obtain ⟨_, hcap, rfl | ⟨b, off, rfl, hb, hn, hc⟩⟩ := hB
  · refine short _ ?_
    rcases a with _ | ad
    · exact run_append_room_src _ _ _ _ 5 i Try.underlying22 hi w.heap.size 0 1 1 _ 0 [] (Src.ofNil _ Try.underlying22 cap) (by omega) (fun j hj => by cases hj) (fun j hj => by cases hj)
    · exact run_append_room_src _ _ _ _ 5 i Try.underlying22 hi w.heap.size 0 1 1 _ 0 [] (Src.ofSlice _ Try.underlying22 ad 0 cap [] (by simp) (fun j u h => by simp at h) (fun u h => by cases h)) (by omega) (fun j hj => by cases hj) (fun j hj => by cases hj)
  · rcases Nat.eq_zero_or_pos len with h0 | hpos
    · subst h0
      refine short _ ?_
      exact run_append_room_src _ _ _ _ 5 i Try.underlying22 hi w.heap.size 0 1 1 _ 0 [] (Src.ofSlice _ Try.underlying22 ⟨b, off, none⟩ 0 cap [] (by simp) (fun j u h => by simp at h) (fun u h => by cases h)) (by omega) (fun j hj => by cases hj) (fun j hj => by cases hj)
    · obtain ⟨news, hlen, hnews, hbytes⟩ := cells_of hc
      obtain ⟨g, cap', w', hr, ho, hg, hat, hlt⟩ := run_append_lies (P := Try.prog) (w.alloc (.cells #[.int .u8 3] 5)) 22 22 0 5 i (.int .u8 0) 1 1 Try.underlying22 hi hz0 hz1 hz2 rfl (by omega) _ 1 _ hown ⟨b, off, none⟩ len cap news (by omega)
        (fun j u h => by
          have e : (⟨b, off, none⟩ : Addr).add j = ⟨b, off + j, none⟩ := Addr.add_lit b off j
          rw [e, hb0.cell (p := ⟨b, off + j, none⟩) hb]; exact hnews j u h)
        (fun u hu => by obtain ⟨m, rfl, _⟩ := hbytes u hu; rfl) hpos (by unfold maxLen; omega) (by omega) (by simp) _ rfl
      have hbel : Below w.heap.size w w' := hb0.grown hg (by simp) (fun k hk => by simp [Value.ownBlock] at hk; omega)
      obtain ⟨_, ⟨hv, _⟩ | ⟨_, _, _, hv, _, _, _, hcm, _⟩⟩ := id ho
      · cases hv
      cases hv
      refine ⟨g, cap', w', hr, ⟨by omega, hcm, .inr ⟨g, 0, rfl, hlt, by omega, row_bytes ho (fun v hv => ?_)⟩⟩, hbel⟩
      rcases List.mem_append.1 hv with h | h
      · simp at h; exact ⟨3, h, by decide, by decide⟩
      · exact hbytes v h
end Go.Proofs.Ytpfnbnlipfobiaf
