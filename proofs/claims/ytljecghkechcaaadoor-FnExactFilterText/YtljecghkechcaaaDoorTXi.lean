/-
  Walks: a filter's text, as the program writes it.
-/
import Derived.Test.YtljecghkechcaaaDoorTXi0
import Derived.Test.YtljecghkechcaaaDoorBF5
import Derived.Test.YtljecghkechcaaaDoorShelf
import Derived.Test.YtljecghkechcaaaDoorShelfJ
import Derived.Lib.SmallJoins
namespace Go.Proofs.YtljecghkechcaaaDoor
open Go.RowKit Pl Il Tn

theorem grow_belowX (w : World) (k : Nat) (os : Array Obj) : Below w.heap.size w (Sort.grow (w.drewN k) os) := by
  refine ⟨rfl, rfl, rfl, ?_, fun i hi => ?_⟩
  · simp [Sort.grow, World.drewN]
  · simp [Sort.grow, World.drewN, Array.getElem?_append_left hi]
theorem itoaX_any (n : Int) (w : World) (hL : LaidT w) (h0 : -999999999 ≤ n) (h1 : n ≤ 999999999) :
    Calls Tryd.prog 29 #[.int .i64 n] w fun e w' => e = .returned (.string (itoaF n)) ∧ Below w.heap.size w w' :=
  (Any.strconv_Itoa Tryd.laysM171 n (by omega) (by omega) w hL.tab).mono fun _ _ ⟨he, k, os, hw⟩ => ⟨he, hw ▸ grow_belowX w k os⟩
theorem word_cell {w : World} (hL : LaidT w) {op : Int} (h0 : 1 ≤ op) (h1 : op ≤ 10) : w.cell? ⟨0, op.toNat, none⟩ = some (.string (wordT op)) := hL.wrd op.toNat (by omega)

set_option maxHeartbeats 1000000 in
theorem wordOf_any (z : Tm) (w : World) (hT : TmOk z) (hL : LaidT w) :
    Calls Tryd.prog 20 #[.agg #[.int .i64 z.1, .int .i64 z.2.1, .string z.2.2]] w fun e w' => e = .returned (.string (termB z)) ∧ Below w.heap.size w w' := by
  have hw := fun o => word_cell (hL.keep (bl_alloc (Below.refl _ _) o)) hT.lo hT.hi
  have hs0 := word_size z.1
  have hs1 := hT.txt
  have b0 : (0 : Int) ≤ z.1 := by have := hT.lo; omega
  have b1 : z.1 < 11 := by have := hT.hi; omega
  have HT := hidOf hT
  have HL := hidOf hL
  clear hT hL
  by_cases h4 : z.1 = 4
  · have H4 : (z.1 == 4) = true := by simp [h4]
    have hN : hasN z.1 = true := by simp [hasN, h4]
    have HNN := hidOf (HT.out.num hN)
    have HN := hidOf hN
    clear hN h4
    go_enter Tryd.func20, Tryd.ntmps20
    go_wp2_with fail
    refine (itoaX_any z.2.1 _ (HL.out.keep (bl_alloc (Below.refl _ _) _)) HNN.out.2.1 HNN.out.2.2).mono ?_
    rintro e w2 ⟨rfl, hb2⟩
    obtain ⟨hc1, hf1⟩ := bcell hb2
    have hB3 := bl_trans (bl_alloc (Below.refl _ _) _) hb2
    have hd := itoaF_size HNN.out.2.1 HNN.out.2.2
    clear hb2
    go_wp2
    go_ret
    exact ⟨rstr (by unfold termB; rw [if_pos HN.out]), hB3⟩
  by_cases h5 : z.1 = 5
  · have H4 : (z.1 == 4) = false := by simp [h4]
    have H5 : (z.1 == 5) = true := by simp [h5]
    have hN : hasN z.1 = true := by simp [hasN, h5]
    have HNN := hidOf (HT.out.num hN)
    have HN := hidOf hN
    clear hN h4 h5
    go_enter Tryd.func20, Tryd.ntmps20
    go_wp2_with fail
    refine (itoaX_any z.2.1 _ (HL.out.keep (bl_alloc (Below.refl _ _) _)) HNN.out.2.1 HNN.out.2.2).mono ?_
    rintro e w2 ⟨rfl, hb2⟩
    obtain ⟨hc1, hf1⟩ := bcell hb2
    have hB3 := bl_trans (bl_alloc (Below.refl _ _) _) hb2
    have hd := itoaF_size HNN.out.2.1 HNN.out.2.2
    clear hb2
    go_wp2
    go_ret
    exact ⟨rstr (by unfold termB; rw [if_pos HN.out]), hB3⟩
  have H4 : (z.1 == 4) = false := by simp [h4]
  have H5 : (z.1 == 5) = false := by simp [h5]
  have HN := hidOf (show hasN z.1 = false by simp [hasN, h4, h5])
  clear h4 h5
  go_enter Tryd.func20, Tryd.ntmps20
  go_wp2
  go_ret
  exact ⟨rstr (by unfold termB; rw [if_neg (by rw [HN.out]; decide), app_nil]), bl_alloc (Below.refl _ _) _⟩

theorem own_keepX {t : TypeId} {sz B : Nat} {w w' : World} {v : Value} {n : Nat} {xs : List Value} (h : w.ownsRow B t sz v n xs) (q : Below w.heap.size w w') : w'.ownsRow B t sz v n xs := by
  obtain ⟨hl, h | ⟨g, cap, cur, e, hB, hg, r⟩⟩ := h
  · exact ⟨hl, .inl h⟩
  · refine ⟨hl, .inr ⟨g, cap, cur, e, hB, ?_, r⟩⟩
    have hlt : g < w.heap.size := by
      rcases Nat.lt_or_ge g w.heap.size with k | k
      · exact k
      · rw [Array.getElem?_eq_none k] at hg; cases hg
    rw [q.block g hlt]; exact hg
theorem joinX_any {B : Nat} {w : World} {a : Option Addr} {n cap : Nat} (ts : List Tm) (hO : OwnsStr B w a n cap (ts.map termB)) (hok : ∀ t, t ∈ ts → okTm t = true) (hl : ts.length = n) (hn : n ≤ 12) :
    Calls Tryd.prog 21 #[.slice a n cap, .string ⟨#[32]⟩] w fun e w' => e = .returned (.string (joinT ts)) ∧ Below w.heap.size w w' := by
  have hS := strs_of hO _ rfl
  obtain ⟨hlen, ⟨e, h0⟩ | ⟨g, cap', cur, e, hB, hg, hc, hm, hs, ht⟩⟩ := hO
  · cases e
    obtain rfl : ts = [] := List.length_eq_zero_iff.1 hl
    refine (Any.strings_Join_none (P := Tryd.prog) (ρ := Tryd.lays156_ren) Tryd.lays156 Tryd.Builder_Extra_156 none 0 ⟨#[32]⟩ w).mono ?_
    rintro e w' ⟨rfl, rfl⟩
    exact ⟨rfl, Below.refl _ _⟩
  · cases e
    subst hl
    have hcell : ∀ (j : Nat) x, (ts.map termB)[j]? = some x → w.cell? ⟨g, 0 + j, none⟩ = some (.string x) := by
      intro j x hx
      rcases hS.row with k | ⟨b, off, e, hlt, hcs⟩
      · rw [List.length_eq_zero_iff.1 k] at hx; simp at hx
      · cases e
        have hj : j < ts.length := by
          rcases Nat.lt_or_ge j ts.length with k | k
          · exact k
          · rw [List.getElem?_eq_none (by simpa using k)] at hx; cases hx
        rw [hcs j hj, List.getD_eq_getElem?_getD, hx]; rfl
    have hz := joinT_size hok ts.length (Nat.le_refl _)
    rw [joinT_all (Nat.le_refl _)] at hz
    have em : (ts.map termB).map (·.data.toList) = ts.map termL := by rw [List.map_map]; rfl
    have hlt : g < w.heap.size := by
      rcases Nat.lt_or_ge g w.heap.size with k | k
      · exact k
      · rw [Array.getElem?_eq_none k] at hg; cases hg
    have J := Any.strings_Join (P := Tryd.prog) (ρ := Tryd.lays156_ren) Tryd.lays156 Tryd.Builder_Extra_156 g 0 cap (ts.map termB) ⟨#[32]⟩ w hcell hlt (by simp; omega) (by simpa using hc) (by
      rw [em]
      have : (joinT ts).size = (Lib.join (ts.map termL) [32]).length := by simp [joinT, ByteArray.size]
      show (Lib.join (ts.map termL) [32]).length ≤ _
      omega)
    rw [em, List.length_map] at J
    exact J

set_option maxHeartbeats 2000000 in
theorem implFilterText_any (a : Option Addr) (n cap : Nat) (ts : List Tm) (w : World) (hI : TmAt w a n ts) (hn : n ≤ 1048576) (hL : LaidT w) :
    Calls Tryd.prog 8 #[.slice a n cap] w fun e w' => e = .returned (ftV ts) ∧ Below w.heap.size w w' := by
  have HF := hidOf (implFilterOk_any a n cap ts w hI (by omega))
  have HI := hidOf hI
  have HLd := hidOf hL
  clear hI hL
  go_enter Tryd.func8, Tryd.ntmps8
  go_wp2_with fail
  refine (HF.out).mono ?_
  rintro e w1 ⟨rfl, hb1⟩
  clear HF
  cases hok : okF ts
  · have HO := hidOf hok
    clear hok
    go_wp2
    go_ret2
    exact ⟨ft_no HO.out, hb1⟩
  · have HO := hidOf hok
    clear hok
    have HL := hidOf HI.out.len
    have h12 : n ≤ 12 := by have := okF_few HO.out; rw [HL.out] at this; exact this
    go_wp2
    go_loopw [4, 12] (fun v i wr => ∃ (k cp : Nat) (q : Option Addr), k ≤ n ∧ i = .int .i64 (k : Int) ∧ v = .slice q k cp ∧ OwnsStr w.heap.size wr q k cp ((ts.take k).map termB) ∧ Below w.heap.size w wr) (fun _ i _ => n - (intOf i).toNat)
    case atStart => exact ⟨0, 0, none, Nat.zero_le _, rfl, rfl, ⟨rfl, .inl ⟨rfl, rfl⟩⟩, hb1⟩
    case round =>
      rename_i wr
      obtain ⟨k, cp, q, hk, rfl, rfl, hOw, hB⟩ := hrel
      have HOw := hidOf hOw
      clear hOw
      by_cases hlt : k < n
      · have hkl : k < ts.length := by rw [HL.out]; exact hlt
        obtain hr | ⟨b, off, rfl, hb, hcell⟩ := HI.out.row
        · omega
        obtain ⟨q0, q1, q2⟩ := hcell k hlt
        have hT := tm_ok (okF_all HO.out _ (qg_mem hkl))
        have HTk := hidOf (take_qg hkl)
        obtain ⟨z, hz⟩ : ∃ z, qg ts k = z := ⟨_, rfl⟩
        rw [hz] at q0 q1 q2 hT HTk
        have hc0 := cellF q0 hB
        have hc1 := cellF q1 hB
        have hc2 := cellF q2 hB
        have HW := hidOf (fun u (hu : LaidT u) => wordOf_any z u hT hu)
        have HLr := hidOf (HLd.out.keep hB)
        have HBr := hidOf hB
        clear hz hcell q0 q1 q2 hT hB hkl
        go_wp2_with fail
        refine (HW.out _ (HLr.out.keep (bl_alloc (Below.refl _ _) _))).mono ?_
        rintro e w2 ⟨rfl, hb2⟩
        have hB2 := bl_trans (bl_alloc HBr.out _) hb2
        have hO2 := own_keepX (HOw.out.alloc _) hb2
        clear hb2
        obtain ⟨g', c', w', hr, ho', hg⟩ := append_str1 w.heap.size k _ _ (termB z) w2 hO2 hB2.size (by omega)
        have hb' : Below w.heap.size w w' := hB2.grown hg hB2.size (fun j hj => (World.ownsRow.lt hO2 j hj).1)
        have Hr := hidT hr
        have Ho' := hidT ho'
        clear hr ho' hg hO2 hc0 hc1 hc2
        go_wp2_with (first | (at_builtin; refine wpList_append_runT rfl _ _ 41 rfl _ _ _ rfl rfl Hr.out ?_) | fail)
        go_roundw
        case rel => exact ⟨k + 1, c', _, hlt, by go_num, rfl, by have h := Ho'.out; rw [HTk.out, List.map_append]; exact h, hb'⟩
        case measure => simp [intOf]; omega
      · obtain rfl : k = n := by omega
        have HJ := hidOf (joinX_any (w := wr) ts (by have := HOw.out; rw [List.take_of_length_le (by rw [HL.out]; exact Nat.le_refl _)] at this; exact this) (okF_all HO.out) HL.out h12)
        go_wp2_with fail
        refine (HJ.out).mono ?_
        rintro e w2 ⟨rfl, hb2⟩
        have hB3 := bl_trans hB hb2
        clear hb2
        go_wp2
        go_ret2
        exact ⟨ft_yes HO.out rfl, hB3⟩
end Go.Proofs.YtljecghkechcaaaDoor
