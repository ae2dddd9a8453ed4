/-
  Walks: a filter's text read, as the program reads it.
-/
import Derived.Test.YtljecghkechcaaaGreatDoorTYa
import Derived.Test.YtljecghkechcaaaGreatDoorTYr
import Derived.Test.YtljecghkechcaaaGreatDoorTN3
import Derived.Test.YtljecghkechcaaaGreatDoorTYq
import Derived.Test.YtljecghkechcaaaGreatDoorShelfS
namespace Go.Proofs.YtljecghkechcaaaGreatDoor
open Go.RowKit Pl Il Nu Go.Shelf

/-- The library's variable holds some number. -/
def GOkF (w : World) : Prop := ∃ m, w.cell? ⟨1, 0, none⟩ = some (.int .i64 m)
theorem GOkF.lt {w : World} (h : GOkF w) : 1 < w.heap.size := by
  obtain ⟨m, hm⟩ := h
  exact World.block_lt_of_cell? _ _ hm
theorem GOkF.keep {w w' : World} (h : GOkF w) (hb : Below w.heap.size w w') : GOkF w' := by
  have hl := h.lt
  obtain ⟨m, hm⟩ := h
  exact ⟨m, by rw [hb.cell (p := ⟨1, 0, none⟩) hl]; exact hm⟩
def WordsP (w : World) (s : ByteArray) (e : Ending) (w' : World) : Prop := ∃ (a : Option Addr) (c : Nat), e = .returned (.slice a (wordsS s).length c) ∧ StrsAt w' a (wordsS s).length (wordsS s) ∧ Below w.heap.size w w'
theorem splitW_any (s : ByteArray) (w : World) (hs : s.size ≤ 1048576) (hg : GOkF w) : Calls Tryz.prog 20 #[.string s, .string ⟨#[32]⟩] w (WordsP w s) := by
  obtain ⟨m, hm⟩ := hg
  refine (Any.strings_Split (P := Tryz.prog) (ρ := Tryz.lays146_ren) Tryz.lays146 infoStr s ⟨#[32]⟩ m w (by omega) hm (by decide)).mono ?_
  rintro e w' ⟨rfl, rfl⟩
  refine ⟨some ⟨w.heap.size, 0, none⟩, Lib.countB s ⟨#[32]⟩ + 1, ?_, ?_, bl_alloc (Below.refl _ _) _⟩
  · unfold wordsS; rw [Tb.parts_len]; rfl
  · exact strs_new w (wordsS s)

/-- The list is built, and every word so far is one. -/
structure RdI (w : World) (s : ByteArray) (v : Value) (m : Nat) (wr : World) : Prop where
  all : ((wordsS s).take m).all (fun x => (rdT x).2) = true
  row : wr.ownsRow w.heap.size 38 3 v m (qflat (tmsT ((wordsS s).take m)))
  bel : Below w.heap.size w wr
theorem take_at {xs : List ByteArray} {k : Nat} (h : k < xs.length) : xs.take (k + 1) = xs.take k ++ [xs.getD k ⟨#[]⟩] := by
  rw [List.take_succ_eq_append_getElem h]
  simp [List.getD, List.getElem?_eq_getElem h]
theorem at_mem {xs : List ByteArray} {k : Nat} (h : k < xs.length) : xs.getD k ⟨#[]⟩ ∈ xs := by
  have : xs.getD k ⟨#[]⟩ = xs[k] := by simp [List.getD, List.getElem?_eq_getElem h]
  rw [this]; exact List.getElem_mem h
theorem RdI.next {w : World} {s : ByteArray} {v : Value} {m : Nat} {wr u : World} (h : RdI w s v m wr) (hb : Below wr.heap.size wr u) (x : ByteArray) (hk : m < (wordsS s).length) (he : (wordsS s).getD m ⟨#[]⟩ = x) (hok : (rdT x).2 = true) (hx : x.size ≤ 1048576) (hm : m ≤ 1048577) :
    ∃ (a' : Option Addr) (c' : Nat) (u' : World), (Builtin.append_ #[24, 24] 24 #[v, .slice (some ⟨u.heap.size, 0, none⟩) 1 1]).run Tryz.prog (u.alloc (.cells #[.int .i64 (rdT x).1.1, .int .i64 (rdT x).1.2.1, .string (rdT x).1.2.2] 38)) = .ok (.slice a' (m + 1) c') u' ∧ RdI w s (.slice a' (m + 1) c') (m + 1) u' := by
  have hrow := rowF_keep h.row hb
  have hbu := bl_trans h.bel hb
  obtain ⟨a', c', u', hr, ho', hg⟩ := append_tmz w.heap.size m v (tmsT ((wordsS s).take m)) (rdT x).1 u hrow hbu.size (by have := rdT_short x; unfold maxLen; omega) (by omega)
  exact ⟨a', c', u', hr, by rw [take_at hk, he]; exact all_snoc h.all hok, by rw [take_at hk, he, tmsT_snoc]; exact ho', rowF_below hbu hrow hg hbu.size⟩

set_option maxRecDepth 100000 in
set_option maxHeartbeats 4000000 in
theorem implReadFilter_any (s : ByteArray) (w : World) (hL : LaidT w) (hN : Laid w) (hG : GOkF w) (hs : s.size ≤ 1048576) :
    Calls Tryz.prog 8 #[.string s] w fun e w' => OutF w (implF s) e w' := by
  by_cases h0 : s = noB
  · subst h0
    have HR := hidOf impl_nil
    have e2 : (noB.toList == []) = true := by unfold noB; rw [ByteArray.toList_eq]; rfl
    have HF := hidOf (OutF.some (w := w) HR.out (fun p hp => by cases hp) (World.ownsRow_nil _ _ _ _) (by omega) (Below.refl _ w))
    clear HR hs hL hN hG
    unfold noB at *
    go_enter Tryz.func8, Tryz.ntmps8
    go_wp2_with fail
    go_ret2
    exact HF.out
  have hne : (s.toList == []) = false := by
    cases hh : (s.toList == [])
    · rfl
    · exfalso
      apply h0
      have := beq_iff_eq.1 hh
      rw [ByteArray.toList_eq] at this
      exact baE this
  have H0 := hidOf h0
  have HL := hidOf hL
  have HN := hidOf hN
  have HC := hidOf (splitW_any s w hs hG)
  have hps := Tb.parts_size s
  have hpl := Tb.parts_le s
  have hps' : ∀ p ∈ wordsS s, p.size ≤ 1048576 := fun p hp => Nat.le_trans (hps p hp) hs
  have hpl' : (wordsS s).length ≤ 1048577 := by unfold wordsS; omega
  have hsh : ∀ p, p ∈ tmsT (wordsS s) → p.2.2.size ≤ maxLen := short_map _ rdT_short hps' (by unfold maxLen; omega)
  have HS := hidOf hps'
  have HH := hidOf hsh
  clear h0 hL hN hG hps hpl hps' hsh hs
  go_enter Tryz.func8, Tryz.ntmps8
  go_wp2_with fail
  refine HC.out.mono ?_
  rintro e w1 ⟨a1, c1, rfl, hP, hB⟩
  clear HC
  obtain ⟨n, hn⟩ : ∃ n, (wordsS s).length = n := ⟨_, rfl⟩
  rw [hn] at hP hpl' ⊢
  have HNn := hidOf hn
  have HP := hidOf hP
  have HB := hidOf hB
  clear hn hP hB
  go_wp2_with fail
  go_loopw [4, 14] (fun v i wr => ∃ (k cp : Nat) (q : Option Addr), k ≤ n ∧ i = .int .i64 (k : Int) ∧ v = .slice q k cp ∧ RdI w1 s (.slice q k cp) k wr) (fun _ i _ => n - (intOf i).toNat)
  case atStart => exact ⟨0, 0, none, Nat.zero_le _, rfl, rfl, ⟨rfl, World.ownsRow_nil _ _ _ _, Below.refl _ _⟩⟩
  case round =>
    rename_i wr
    obtain ⟨k, cp, q, hk, rfl, rfl, hR⟩ := hrel
    have HR := hidOf hR
    clear hR
    by_cases hlt : k < n
    · have hlt' : (k : Int) < (n : Int) := by omega
      have hkl : k < (wordsS s).length := by rw [HNn.out]; exact hlt
      obtain hr | ⟨b, off, rfl, hb, hcell⟩ := HP.out.row
      · omega
      have hc := hcell k hlt
      obtain ⟨x, hx⟩ : ∃ x, (wordsS s).getD k ⟨#[]⟩ = x := ⟨_, rfl⟩
      rw [hx] at hc
      have hc' := cellF hc HR.out.bel
      have hxs : x.size ≤ 1048576 := by rw [← hx]; exact HS.out _ (at_mem hkl)
      have HX := hidOf hx
      have HKL := hidOf hkl
      have HBw := hidOf (bl_trans HB.out HR.out.bel)
      have HT := hidOf (readTerm_any x wr (HL.out.keep HBw.out) (HN.out.keep HBw.out) hxs)
      clear hcell hc hx hkl
      go_wp2_with fail
      refine (HT.out).mono ?_
      rintro e w2 ⟨rfl, hb2⟩
      have HNx := hidOf (fun hok => HR.out.next (bl_alloc hb2 (.cells #[.int .i64 (rdT x).1.1, .int .i64 (rdT x).1.2.1, .string (rdT x).1.2.2] 38)) x HKL.out HX.out hok hxs (by omega))
      have HB2 := hidOf (bl_trans HBw.out hb2)
      have HSb := hidOf (fun hb => impl_bad H0.out (show x ∈ wordsS s by rw [← HX.out]; exact at_mem HKL.out) hb)
      clear hb2 HT
      obtain ⟨o, nn, t, ok, he⟩ := rdV_eta (rdT x)
      rw [he] at HNx HSb ⊢
      rw [rdV_mk]
      cases ok
      · have HS2 := hidOf (HSb.out rfl)
        clear HSb HNx HX HR HKL hxs hc'
        go_wp2_with fail
        go_ret2
        exact OutF.none HS2.out (bl_alloc HB2.out _)
      · obtain ⟨a', c', u', hr, hn⟩ := HNx.out rfl
        simp only [World.size_alloc] at hr
        have Hr := hidOf hr
        have HN' := hidOf hn
        clear HSb HNx HX HR HKL hxs hr hn hc'
        go_wp2_with (first | (at_builtin; refine wpList_append_run rfl _ _ 24 rfl _ _ _ rfl rfl Hr.out ?_) | fail)
        go_roundw
        case rel => exact ⟨k + 1, c', _, hlt, by go_num, rfl, HN'.out⟩
        case measure => simp [intOf]; omega
    · obtain rfl : k = n := by omega
      have hall := HR.out.all
      have hrow := HR.out.row
      rw [List.take_of_length_le (by rw [HNn.out]; exact Nat.le_refl _)] at hall hrow
      obtain ⟨a2, c2, e2, _, hT⟩ := ownF_of hrow _ rfl HH.out
      cases e2
      have HBw := hidOf (bl_trans HB.out HR.out.bel)
      have HRow := hidOf hrow
      have HO := hidOf (impl_ok H0.out hall)
      have HF := hidOf (implFilterOk_any q k cp (tmsT (wordsS s)) wr hT.tm (by omega))
      have HLn := hidOf hT.tm.len
      clear hall hrow hT HR
      cases hok : okF (tmsT (wordsS s))
      · rw [hok] at HF
        have HNo := hidOf (show implF s = none by rw [HO.out, if_neg (by rw [hok]; simp)])
        clear hok
        go_wp2_with fail
        refine HF.out.mono ?_
        rintro e w2 ⟨rfl, hb2⟩
        have HB2 := hidOf (bl_trans HBw.out hb2)
        clear hb2 HF
        go_wp2_with fail
        go_ret2
        exact OutF.none HNo.out HB2.out
      · rw [hok] at HF
        have HY := hidOf (show implF s = some (tmsT (wordsS s)) by rw [HO.out, if_pos hok])
        have h12 : k ≤ 12 := by have := okF_few hok; rw [HLn.out] at this; exact this
        clear hok
        go_wp2_with fail
        refine HF.out.mono ?_
        rintro e w2 ⟨rfl, hb2⟩
        have HB2 := hidOf (bl_trans HBw.out hb2)
        have HR2 := hidOf ((rowF_keep HRow.out hb2).mono HB.out.size)
        clear hb2 HF HRow
        go_wp2_with fail
        go_ret2
        exact OutF.some HY.out HH.out HR2.out (by omega) HB2.out
end Go.Proofs.YtljecghkechcaaaGreatDoor
