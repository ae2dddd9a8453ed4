/-
  Walks of the program's queue: who stands.
-/
import Derived.Test.YtfgknbflgmblmaaQ3
namespace Go.Proofs.Ytfgknbflgmblmaa
open Go.RowKit Go.Maps Pl Il

theorem QParts.look {B : Nat} {w : World} {qb mb : Nat} {cv : Value} {D : DataW Unit} {xs gone : List Int} (h : QParts B w qb mb cv D xs gone) {x : Int} (hx : (Lit.int .i64 x).wf = true) {p : Option Nat} (hp : placeG xs gone x = p) :
    (Instr.lookup 104 (.map (some mb)) (.int .i64 x) true).run Try.prog w = .ok (.tuple #[.int .i64 (p.getD 0 : Nat), .bool p.isSome]) w := by
  obtain ⟨v, ps, hrun, hv⟩ := h.mem.map.look_ok (t := 104) (e := 3) law3 Try.underlying104 (zero3 _) (plainElem_int Try.underlying3 (by decide)) (keyOf_int_mk Try.underlying3 hx)
  obtain ⟨c, rfl, hc, _⟩ := plainElem_int_inv Try.underlying3 hv
  rw [hrun, h.has x, h.at (congrArg Prod.fst hc), hp]

theorem append_more (B m : Nat) (v : Value) (ys : List Int) (x : Int) (w w0 : World) (hB : B = w0.heap.size) (ho : w.ownsRow B 3 1 v m (ys.map (Value.int .i64))) (hb : Below B w0 w) (hs : m + 1 ≤ 4194304) :
    ∃ (g' c' : Nat) (w' : World), (Builtin.append_ #[24, 24] 24 #[v, .slice (some ⟨w.heap.size, 0, none⟩) 1 1]).run Try.prog (w.alloc (.cells #[.int .i64 x] 3)) = .ok (.slice (some ⟨g', 0, none⟩) (m + 1) c') w' ∧
      w'.ownsRow B 3 1 (.slice (some ⟨g', 0, none⟩) (m + 1) c') (m + 1) ((ys ++ [x]).map (Value.int .i64)) ∧ Below B w0 w' := by
  subst hB
  obtain ⟨g, c, w', hr, ho', hg, _⟩ := append_own1 _ m v ys x w ho hb.size hs
  exact ⟨g, c, w', hr, ho', hb.grown hg hb.size (fun k hk => (ho.lt k hk).1)⟩

theorem standing_any (B qb : Nat) (xs gone : List Int) (w : World) (hQ : QAt B w qb xs gone) (hw : wfL xs) (hn : xs.length ≤ 2097152) :
    Calls Try.prog 81 #[.pointer (some ⟨qb, 0, none⟩)] w fun e w' => ∃ v, e = .returned v ∧ w'.ownsRow w.heap.size 3 1 v (standTo xs gone xs.length).length ((standTo xs gone xs.length).map (Value.int .i64)) ∧ Below w.heap.size w w' := by
  obtain ⟨mb, cv, D, hq⟩ := hQ
  have c0 := hq.mem.c0
  have hlq := hq.mem.lt
  obtain ⟨a, ca, rfl, hI⟩ := hq.mem.form
  have HQ := hidOf hq
  clear hq
  obtain ⟨_, h0 | ⟨b, off, rfl, hb, hcell⟩⟩ := hI
  · have hx : xs = [] := List.length_eq_zero_iff.1 h0
    subst hx
    go_enter Try.func81, Try.ntmps81
    go_wp2
    go_loop [3, 13] (fun v i => v = .slice none 0 0 ∧ i = .int .i64 0) (fun _ _ => 0)
    case atStart => exact ⟨rfl, rfl⟩
    case round =>
      obtain ⟨rfl, rfl⟩ := hrel
      go_wp2
      go_ret
      exact ⟨_, rfl, ⟨rfl, .inl ⟨rfl, rfl⟩⟩, Below.refl _ _⟩
  · generalize hnn : xs.length = n at *
    go_enter Try.func81, Try.ntmps81
    go_wp2
    go_loopw [3, 13] (fun v i wr => ∃ k : Nat, k ≤ n ∧ i = .int .i64 k ∧ wr.ownsRow w.heap.size 3 1 v (standTo xs gone k).length ((standTo xs gone k).map (Value.int .i64)) ∧ Below w.heap.size w wr) (fun _ i _ => n - (intOf i).toNat)
    case atStart => exact ⟨0, Nat.zero_le _, rfl, ⟨rfl, .inl ⟨rfl, rfl⟩⟩, Below.refl _ _⟩
    case round =>
      rename_i wr
      obtain ⟨k, hk, rfl, ho, hbr⟩ := hrel
      by_cases hlt : k < n
      · have hc : wr.cell? ⟨b, off + k, none⟩ = some (.int .i64 (xs.getD k 0)) := by rw [hbr.cell (p := ⟨b, off + k, none⟩) hb]; exact hcell k hlt
        have hwk := wf_at hw (k := k) (by omega)
        have hp : QParts B wr qb mb _ D xs gone := ⟨HQ.out.mem.keep hbr, HQ.out.rd⟩
        have c1 := hp.mem.c1
        generalize hy : xs.getD k 0 = y at hc hwk
        have hlook := fun p => hp.look hwk (p := p)
        have hm := stand_len xs gone k
        obtain ⟨g', c', w', hr, ho', hb'⟩ := append_more w.heap.size _ u3 _ y wr w rfl ho hbr (by omega)
        have hyes := fun h => stand_yes (gone := gone) hy h
        have hno := fun h => stand_no (gone := gone) hy h
        generalize hst : standTo xs gone k = st at *
        generalize hsl : st.length = sl at *
        have Hr := hidOf hr
        have Ho := hidOf ho
        have Ho' := hidOf ho'
        have Hbr := hidOf hbr
        have Hb' := hidOf hb'
        have Hyes := hidOf hyes
        have Hno := hidOf hno
        have HS := hidOf hsl
        have hkk : (k : Int) < (n : Int) := by omega
        clear hy hcell hr ho ho' hbr hb' hp hyes hno hst hsl
        cases hpl : placeG xs gone y with
        | none =>
          have hl := hlook _ hpl
          simp only [Option.getD_none, Option.isSome_none] at hl
          clear hlook
          go_wp2
          go_roundw
          case rel => exact ⟨k + 1, by omega, by go_num, by rw [Hno.out (by rw [hpl]; simp), HS.out]; exact Ho.out, Hbr.out⟩
          case measure => simp [intOf]; omega
        | some j =>
          have hl := hlook _ hpl
          simp only [Option.getD_some, Option.isSome_some] at hl
          clear hlook
          by_cases hj : j = k
          · subst hj
            have hjj : ((j : Int) == (j : Int)) = true := by simp
            go_wp2_with (first
              | (at_builtin; refine wpList_append_run rfl _ _ 24 rfl _ _ _ rfl rfl Hr.out ?_)
              | go_in)
            go_roundw
            case rel => exact ⟨j + 1, by omega, by go_num, by rw [Hyes.out hpl, List.length_append, HS.out]; exact Ho'.out, Hb'.out⟩
            case measure => simp [intOf]; omega
          · have hjj : ((j : Int) == (k : Int)) = false := by simp; omega
            go_wp2
            go_roundw
            case rel => exact ⟨k + 1, by omega, by go_num, by rw [Hno.out (by rw [hpl]; simp; omega), HS.out]; exact Ho.out, Hbr.out⟩
            case measure => simp [intOf]; omega
      · obtain rfl : k = n := by omega
        clear hcell
        go_wp2
        go_ret
        exact ⟨_, rfl, ho, hbr⟩
end Go.Proofs.Ytfgknbflgmblmaa
