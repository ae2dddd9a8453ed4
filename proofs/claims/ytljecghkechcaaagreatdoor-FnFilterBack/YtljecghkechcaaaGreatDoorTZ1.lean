/-
  A filter's text read back: the mathematics, what is drawn, and the filters held against each other.
-/
import Derived.Test.YtljecghkechcaaaGreatDoorTYa
import Derived.Test.YtljecghkechcaaaGreatDoorDF3
import Derived.Test.YtljecghkechcaaaGreatDoorTXs
import Derived.LaidMore
import Derived.Laws.StructEq
namespace Go.Proofs.YtljecghkechcaaaGreatDoor
open Go.RowKit Pl Il Dr

theorem words_join {l : List Tm} (hok : okF l = true) (hne : l ≠ []) : wordsS (joinT l) = l.map termB := by
  apply Tb.map_inj
  rw [List.map_map]
  have e : (wordsS (joinT l)).map Tb.dat = Tb.cutL (joinT l).data.toList := words_cut _
  rw [e]
  cases l with
  | nil => exact absurd rfl hne
  | cons t ts =>
    simp only [joinT, List.map_cons]
    exact Tb.cut_join _ _ (by
      intro q hq
      rw [← List.map_cons (f := termL), List.mem_map] at hq
      obtain ⟨x, hx, rfl⟩ := hq
      exact term_no (okF_all hok x hx))
theorem term_ne {t : Tm} (h : okTm t = true) : ¬ termB t = noB := by
  intro e
  have := rdT_back h
  rw [e] at this
  have k : (rdT noB).2 = false := by unfold rdT; rw [dif_neg (by decide)]
  rw [this] at k
  cases k
theorem join_ne {l : List Tm} (hok : okF l = true) (hne : l ≠ []) : ¬ joinT l = noB := by
  intro e
  have h := words_join hok hne
  rw [e] at h
  have hw : wordsS noB = [noB] := by
    apply Tb.map_inj
    have e : (wordsS noB).map Tb.dat = Tb.cutL noB.data.toList := words_cut _
    rw [e]; rfl
  rw [hw] at h
  cases l with
  | nil => exact hne rfl
  | cons t ts =>
    simp only [List.map_cons, List.cons.injEq] at h
    exact term_ne (okF_all hok t (by simp)) h.1.symm
theorem impl_back {l : List Tm} (hok : okF l = true) : implF (joinT l) = some l := by
  by_cases hne : l = []
  · subst hne
    have : joinT [] = noB := rfl
    rw [this]; exact impl_nil
  · have hw := words_join hok hne
    have hm : tmsT (wordsS (joinT l)) = l := by
      unfold tmsT
      rw [hw, List.map_map]
      conv => rhs; rw [← List.map_id l]
      exact List.map_congr_left fun t ht => by simp only [Function.comp, id, rdT_back (okF_all hok t ht)]
    have ha : (wordsS (joinT l)).all (fun w => (rdT w).2) = true := by
      rw [hw, List.all_eq_true]
      intro w hw
      obtain ⟨t, ht, rfl⟩ := List.mem_map.1 hw
      rw [rdT_back (okF_all hok t ht)]
    rw [impl_ok (join_ne hok hne) ha, hm, if_pos hok]
theorem impl_text {s : ByteArray} {f : List Tm} (h : implF s = some f) : okF f = true ∧ joinT f = s := by
  have hs := impl_to_spec h
  unfold specF at hs
  split at hs
  · cases hs
  · split at hs
    · rename_i _ h0
      cases hs
      exact ⟨by decide, h0.symm ▸ rfl⟩
    · split at hs
      · split at hs
        · rename_i hh
          obtain rfl := Option.some.inj hs
          exact hh
        · cases hs
      · cases hs
theorem joinT_small {l : List Tm} (hok : okF l = true) : (joinT l).size ≤ 300 := by
  have hz := joinT_size (okF_all hok) l.length (Nat.le_refl _)
  rw [joinT_all (Nat.le_refl _)] at hz
  have := okF_few hok
  omega
theorem ft_val (l : List Tm) : ∃ (s : ByteArray) (b : Bool), ftV l = .tuple #[.string s, .bool b] ∧ s.size ≤ 300 ∧ (b = true → okF l = true ∧ s = joinT l) := by
  unfold ftV
  split
  · rename_i h
    exact ⟨_, _, rfl, joinT_small h, fun _ => ⟨h, rfl⟩⟩
  · exact ⟨_, _, rfl, by decide, fun h => by cases h⟩

theorem neqT (o n : Int) (s : ByteArray) (w : World) : (binOp .neq 38 (.agg #[.int .i64 o, .int .i64 n, .string s]) (.agg #[.int .i64 o, .int .i64 n, .string s])).run Tryz.prog w = .ok (.bool false) w := by
  have u3 := Tryz.underlying3
  have a3 := Tryz.isAgg3
  have z3 := Tryz.sizeOf3
  have u9 := Tryz.underlying9
  have a9 := Tryz.isAgg9
  have z9 := Tryz.sizeOf9
  have hS : Tryz.prog.underlying 38 = some (.struct (Tryz.prog.fieldsOf 38)) := by kernel_rfl
  have hp : Tryz.prog.stoodInHeld 38 = false := by kernel_rfl
  have e : (Op.equalIn 10000 38 (.agg #[.int .i64 o, .int .i64 n, .string s]) (.agg #[.int .i64 o, .int .i64 n, .string s])).run Tryz.prog w = .ok true w := by
    rw [show (10000 : Nat) = 9999 + 1 from rfl, run_equalIn_agg w 9999 38 _ _ hS hp]
    simp only [Program.fieldsOf, Tryz.underlying38]
    go_simp
  rw [run_neq_struct, e]; rfl
/-- Two lists that are the same. -/
theorem termsSame_any (a a' : Option Addr) (n cap cap' : Nat) (xs : List Tm) (w : World) (hI : TmAt w a n xs) (hJ : TmAt w a' n xs) (hn : n ≤ 2097152) :
    Calls Tryz.prog 22 #[.slice a n cap, .slice a' n cap'] w fun e w' => e = .returned (.bool true) ∧ Below w.heap.size w w' := by
  have HI := hidOf hI
  have HJ := hidOf hJ
  clear hI hJ
  go_enter Tryz.func22, Tryz.ntmps22
  go_wp2
  go_loopw [5] (fun i wr => ∃ k : Nat, k ≤ n ∧ i = .int .i64 (k : Int) ∧ Below w.heap.size w wr) (fun i _ => n - (intOf i).toNat)
  case atStart => exact ⟨0, Nat.zero_le _, rfl, Below.refl _ _⟩
  case round =>
    rename_i wr
    obtain ⟨k, hk, rfl, hB⟩ := hrel
    by_cases hlt : k < n
    · obtain hr | ⟨b, off, rfl, hb, hcell⟩ := HI.out.row
      · omega
      obtain hr' | ⟨b', off', rfl, hb', hcell'⟩ := HJ.out.row
      · omega
      obtain ⟨q0, q1, q2⟩ := hcell k hlt
      obtain ⟨p0, p1, p2⟩ := hcell' k hlt
      obtain ⟨z, hz⟩ : ∃ z, qg xs k = z := ⟨_, rfl⟩
      rw [hz] at q0 q1 q2 p0 p1 p2
      have c0 := cellF q0 hB
      have c1 := cellF q1 hB
      have c2 := cellF q2 hB
      have d0 := cellF p0 hB
      have d1 := cellF p1 hB
      have d2 := cellF p2 hB
      have hs : (z.2.2.toList == z.2.2.toList) = true := by simp
      have HB := hidOf hB
      have hq := fun w => neqT z.1 z.2.1 z.2.2 w
      clear hcell hcell' q0 q1 q2 p0 p1 p2 hz hB
      go_wp2_with fail
      go_quiet (fail)
      go_wp2_with fail
      go_roundw
      case rel => exact ⟨k + 1, hlt, by go_num, bl_drewN HB.out _⟩
      case measure => simp [intOf]; omega
    · obtain rfl : k = n := by omega
      go_wp2
      go_ret
      exact ⟨rfl, hB⟩
theorem termsSame2_any (a a' : Option Addr) (n cap cap' : Nat) (xs : List Tm) (w : World) (hI : TmAt w a n xs) (hJ : TmAt w a' n xs) (hn : n ≤ 2097152) :
    Calls Tryz.prog 9 #[.slice a n cap, .slice a' n cap'] w fun e w' => e = .returned (.bool true) ∧ Below w.heap.size w w' := by
  have H := hidOf (termsSame_any a a' n cap cap' xs w hI hJ hn)
  clear hI hJ
  go_enter Tryz.func9, Tryz.ntmps9
  go_wp2_with fail
  refine H.out.mono ?_
  rintro e w1 ⟨rfl, hb1⟩
  go_wp2
  go_ret
  exact ⟨rfl, hb1⟩

/-- A filter is drawn. -/
def DfP (w : World) (e : Ending) (w' : World) : Prop := ∃ (a' : Option Addr) (m c' : Nat) (l : List Tm), e = .returned (.slice a' m c') ∧ m ≤ 13 ∧ TmAt w' a' m l ∧ Below w.heap.size w w'
set_option maxHeartbeats 4000000 in
theorem drawFilterText_any (a : Option Addr) (len cap : Nat) (w : World) (hB : Bytes w.heap.size w a len cap) :
    Calls Tryz.prog 5 #[.slice a len cap] w fun e w' => DfP w e w' := by
  go_enter Tryz.func5, Tryz.ntmps5
  go_wp2_with fail
  refine (new_any a len cap _ hB).mono ?_
  rintro e w1 ⟨rfl, hC, hb⟩
  have hlt1 := hC.lt
  go_wp2_with fail
  refine (l8Some_any a len cap _ _ hC).mono ?_
  rintro e w2 ⟨a2, m, c2, l, rfl, hm, hV⟩
  have hB2 : Below w.heap.size w w2 := hb.trans (hV.D.ex.below (by omega) hb.size)
  have HF := hidOf (And.intro (tm_of_row hV.row hV.short) hB2)
  clear hV hb hC hB hB2
  go_wp2
  first | go_ret | go_ret2
  exact ⟨a2, m, c2, l, rfl, hm, HF.out.1, HF.out.2⟩
/-- A text is drawn. -/
def DtP (w : World) (e : Ending) (w' : World) : Prop := ∃ s : ByteArray, e = .returned (.string s) ∧ s.size ≤ 300 ∧ Below w.heap.size w w'
theorem pick_newF (a : Option Addr) (len cap : Nat) (c n : Nat) (cs : Array Value) (w : World) (hC : Cur c a len cap w) (h0 : 0 < n) (h1 : n ≤ 256) (hcs : strsB cs n = true) :
    Calls Tryz.prog 25 #[.pointer (some ⟨c, 0, none⟩), .slice (some ⟨w.heap.size, 0, none⟩) n n] (w.alloc (.cells cs 9)) fun e w' => ∃ x : ByteArray, e = .returned (.string x) ∧ x.size ≤ 40 ∧ Drawn c a len cap w w' := by
  have hlt := hC.lt
  refine (pick_any a len cap c w.heap.size n (w.alloc (.cells cs 9)) (hC.alloc _) (by simp) (by omega) h0 h1 (row_strs w cs 9 n hcs)).mono ?_
  rintro e w' ⟨x, rfl, hx, hd⟩
  exact ⟨x, rfl, hx, ((Drawn.start hC).alloc _).trans hd⟩
set_option maxHeartbeats 4000000 in
theorem drawReadFilter_any (a : Option Addr) (len cap : Nat) (w : World) (hB : Bytes w.heap.size w a len cap) :
    Calls Tryz.prog 10 #[.slice a len cap] w fun e w' => DtP w e w' := by
  have HNw := hidOf (new_any a len cap w hB)
  clear hB
  go_enter Tryz.func10, Tryz.ntmps10
  go_wp2_with fail
  refine HNw.out.mono ?_
  rintro e w1 ⟨rfl, hC, hb⟩
  have hs1 := hb.size
  generalize hc : w.heap.size = c at *
  have HC0 := hidOf hC
  have HB0 := hidOf hb
  have HCc := hidOf hc
  have hlt1 := hC.lt
  clear hC hb hc HNw
  go_wp2_with fail
  refine (l8Filter_any a len cap _ _ HC0.out).mono ?_
  rintro e w2 ⟨a2, m, c2, l, rfl, hm, hV⟩
  have HV := hidOf hV
  clear hV
  go_wp2_with fail
  refine (specFilterText_any _ m c2 l _ (tm_of_row HV.out.row HV.out.short) (by omega)).mono ?_
  rintro e w3 ⟨rfl, hb3⟩
  have HD3 := hidOf (show Drawn c a len cap w1 w3 from ⟨HV.out.D.cur.keep hb3, HV.out.D.ex.trans (Ex.of hb3)⟩)
  obtain ⟨s, bb, hv, hs, _⟩ := ft_val l
  rw [hv]
  clear hb3 HV hv
  go_wp2_with fail
  refine (once_any a len cap c 3 _ HD3.out.cur (by omega) (by omega)).mono ?_
  rintro e w4 ⟨x, rfl, hd4⟩
  have HD4 := hidOf (HD3.out.trans hd4)
  clear hd4 HD3
  cases x
  · go_wp2_with fail
    go_ret
    exact ⟨s, rfl, hs, by rw [HCc.out]; exact HB0.out.trans (HD4.out.ex.below (Nat.le_refl _) (by omega))⟩
  · go_wp2_with fail
    refine (pick_newF a len cap c 14 _ w4 HD4.out.cur (by omega) (by omega) (by decide)).mono ?_
    rintro e w5 ⟨y, rfl, hy, hd5⟩
    have HD5 := hidOf (HD4.out.trans hd5)
    clear hd5
    go_wp2_with fail
    go_ret
    exact ⟨y, rfl, by omega, by rw [HCc.out]; exact HB0.out.trans (HD5.out.ex.below (Nat.le_refl _) (by omega))⟩
end Go.Proofs.YtljecghkechcaaaGreatDoor
