/-
  Walks: a filter's text read, as the specification reads it.
-/
import Derived.Test.YtljecghkechcaaaGreatDoorTYa
import Derived.Test.YtljecghkechcaaaGreatDoorTYs
namespace Go.Proofs.YtljecghkechcaaaGreatDoor
open Go.RowKit Pl Il

theorem w32 (c : UInt8) (h : c = 32) : ((c.toNat : Int) == 32) = true := by rw [h]; decide
theorem n32 (c : UInt8) (h : ¬ c = 32) : ((c.toNat : Int) == 32) = false := by
  rw [beq_eq_false_iff_ne]
  intro e
  exact h (UInt8.toNat_inj.1 (by simpa using (show c.toNat = 32 by omega)))
theorem w32n (c : UInt8) (h : c = 32) : ((c.toNat : Int) != 32) = false := by rw [h]; decide
theorem n32n (c : UInt8) (h : ¬ c = 32) : ((c.toNat : Int) != 32) = true := by
  have := n32 c h
  simp only [bne, this, Bool.not_false]
theorem rdV_eta (r : Tm × Bool) : ∃ (o n : Int) (t : ByteArray) (b : Bool), r = ((o, n, t), b) := ⟨r.1.1, r.1.2.1, r.1.2.2, r.2, rfl⟩
theorem rdV_mk (o n : Int) (t : ByteArray) (b : Bool) : rdV ((o, n, t), b) = .tuple #[.agg #[.int .i64 o, .int .i64 n, .string t], .bool b] := rfl
theorem empty_row (w : World) (t : TypeId) : (w.alloc (.cells #[] t)).ownsRow w.heap.size t 3 (.slice (some ⟨w.heap.size, 0, none⟩) 0 0) 0 (qflat []) :=
  ⟨rfl, .inr ⟨w.heap.size, 0, #[], rfl, Nat.le_refl _, heap_alloc_new w _, Nat.le_refl _, Nat.zero_le _, rfl, rfl⟩⟩
/-- The list is built, and every word so far is one. -/
structure RdS (w : World) (s : ByteArray) (v : Value) (m : Nat) (xs : List ByteArray) (wr : World) : Prop where
  len : xs.length = m
  all : xs.all (fun x => (rdS x).2) = true
  row : wr.ownsRow w.heap.size 38 3 v m (qflat (tmsS xs))
  bel : Below w.heap.size w wr
theorem RdS.next {w : World} {s : ByteArray} {v : Value} {m : Nat} {xs : List ByteArray} {wr u : World} (h : RdS w s v m xs wr) (hb : Below wr.heap.size wr u) (x : ByteArray) (hok : (rdS x).2 = true) (hx : x.size ≤ 144) (hm : m ≤ 1000) :
    ∃ (a' : Option Addr) (c' : Nat) (u' : World), (Builtin.append_ #[24, 24] 24 #[v, .slice (some ⟨u.heap.size, 0, none⟩) 1 1]).run Tryz.prog (u.alloc (.cells #[.int .i64 (rdS x).1.1, .int .i64 (rdS x).1.2.1, .string (rdS x).1.2.2] 38)) = .ok (.slice a' (m + 1) c') u' ∧ RdS w s (.slice a' (m + 1) c') (m + 1) (xs ++ [x]) u' := by
  have hrow := rowF_keep h.row hb
  have hbu := bl_trans h.bel hb
  obtain ⟨a', c', u', hr, ho', hg⟩ := append_tmz w.heap.size m v (tmsS xs) (rdS x).1 u hrow hbu.size (by have := rdS_short x; unfold maxLen; omega) (by omega)
  exact ⟨a', c', u', hr, by rw [List.length_append, h.len]; rfl, all_snoc h.all hok, by rw [tmsS_snoc]; exact ho', rowF_below hbu hrow hg hbu.size⟩
theorem ext_small {s : ByteArray} (b k : Nat) (h : s.size ≤ 144) : (s.extract b k).size ≤ 144 := by rw [ByteArray.size_extract]; omega

set_option maxRecDepth 100000 in
set_option maxHeartbeats 4000000 in
theorem specReadFilter_any (s : ByteArray) (w : World) (hs : s.size ≤ 1048576) :
    Calls Tryz.prog 11 #[.string s] w fun e w' => OutF w (specF s) e w' := by
  have hE : RdS w s (.slice (some ⟨w.heap.size, 0, none⟩) 0 0) 0 [] (w.alloc (.cells #[] 38)) := ⟨rfl, rfl, empty_row w _, bl_alloc (Below.refl _ _) _⟩
  have HE := hidOf hE
  clear hE
  by_cases hl : 144 < s.size
  · have HR := hidOf (spec_long hl)
    have hl' : (144 : Int) < (s.size : Int) := by omega
    clear hl
    go_enter Tryz.func11, Tryz.ntmps11
    go_wp2
    go_ret2
    exact OutF.none HR.out HE.out.bel
  have hl' : ¬ (144 : Int) < (s.size : Int) := by omega
  by_cases h0 : s = noB
  · subst h0
    have HR := hidOf spec_nil
    have e0 : ftV [] = .tuple #[.string ⟨#[]⟩, .bool true] := by unfold ftV; rw [if_pos (by decide)]; rfl
    have e1 : ((⟨#[]⟩ : ByteArray).toList == noB.toList) = true := by unfold noB; simp
    have e2 : (noB.toList == []) = true := by unfold noB; rw [ByteArray.toList_eq]; rfl
    have e3 : noB.size = 0 := rfl
    clear hl hl' hs
    unfold noB at *
    go_enter Tryz.func11, Tryz.ntmps11
    go_wp2_with fail
    go_loopw [4, 5, 6] (fun v f i wr => v = .slice (some ⟨w.heap.size, 0, none⟩) 0 0 ∧ i = .int .i64 0 ∧ wr = w.alloc (.cells #[] 38)) (fun _ _ _ _ => 0)
    case atStart => exact ⟨rfl, rfl, rfl⟩
    case round =>
      obtain ⟨rfl, rfl, rfl⟩ := hrel
      go_wp2_with fail
      refine (specFilterText_any _ 0 0 [] _ (TmAt.nil _ _) (by omega)).mono ?_
      rintro e w1 ⟨rfl, hb1⟩
      rw [e0]
      have HO := hidOf (rowF_keep HE.out.row hb1)
      have HB := hidOf (bl_trans HE.out.bel hb1)
      clear hb1
      go_wp2_with fail
      go_ret2
      exact OutF.some HR.out (fun p hp => by cases hp) HO.out (by omega) HB.out
  have hz : s.size ≤ 144 := by omega
  have hne : (s.toList == []) = false := by
    cases hh : (s.toList == [])
    · rfl
    · exfalso
      apply h0
      have := beq_iff_eq.1 hh
      rw [ByteArray.toList_eq] at this
      exact baE this
  have H0 := hidOf h0
  have HL := hidOf hl
  clear h0 hl hs
  go_enter Tryz.func11, Tryz.ntmps11
  go_wp2_with fail
  go_loopw [4, 5, 6] (fun v f i wr => (∃ (k b m cp : Nat) (a : Option Addr) (xs : List ByteArray), f = .int .i64 (b : Int) ∧ i = .int .i64 (k : Int) ∧ v = .slice a m cp ∧ Tb.CutAt s xs b k ∧ RdS w s (.slice a m cp) m xs wr) ∨
      (∃ (m cp : Nat) (a : Option Addr) (b : Int), f = .int .i64 b ∧ i = .int .i64 ((s.size : Int) + 1) ∧ v = .slice a m cp ∧ RdS w s (.slice a m cp) m (wordsS s) wr)) (fun _ _ i _ => s.size + 1 - (intOf i).toNat)
  case atStart => exact .inl ⟨0, 0, 0, 0, _, [], rfl, rfl, rfl, Tb.CutAt.start s, HE.out⟩
  case round =>
    rename_i wr
    clear HE
    rcases hrel with ⟨k, b, m, cp, a, xs, rfl, rfl, rfl, hcut, hR⟩ | ⟨m, cp, a, b, rfl, rfl, rfl, hR⟩
    · have hk := hcut.lt
      have hbk := hcut.le
      have hfew : m ≤ 1000 := by have := hcut.few; rw [hR.len] at this; omega
      obtain ⟨x, hx⟩ : ∃ x, s.extract b k = x := ⟨_, rfl⟩
      have hxs : x.size ≤ 144 := by rw [← hx]; exact ext_small b k hz
      have HT := hidOf (fun u => l8Term_any x u (by omega))
      have HC := hidOf hcut
      have HR := hidOf hR
      have HX := hidOf hx
      clear hcut hR hx
      by_cases hks : k = s.size
      · have hmem : x ∈ wordsS s := by rw [← HX.out]; exact word_last (HC.out.done hks)
        have hdone : xs ++ [x] = wordsS s := by rw [← HX.out]; exact HC.out.done hks
        subst hks
        have HM := hidOf hmem
        have HD := hidOf hdone
        clear hmem hdone
        go_wp2_with fail
        rw [HX.out]
        refine (HT.out _).mono ?_
        rintro e w1 ⟨rfl, hb1⟩
        have HN := hidOf (fun hok => HR.out.next (bl_alloc hb1 (.cells #[.int .i64 (rdS x).1.1, .int .i64 (rdS x).1.2.1, .string (rdS x).1.2.2] 38)) x hok hxs hfew)
        have HB := hidOf (bl_trans HR.out.bel hb1)
        have HS := hidOf (fun hb => spec_bad H0.out HM.out (x := x) hb)
        clear hb1 HT
        obtain ⟨o, n, t, ok, he⟩ := rdV_eta (rdS x)
        rw [he] at HN HS ⊢
        rw [rdV_mk]
        cases ok
        · have HS2 := hidOf (HS.out rfl)
          clear HS HN HX HC HR HM HD hxs
          go_wp2_with fail
          go_ret2
          exact OutF.none HS2.out (bl_alloc HB.out _)
        · obtain ⟨a', c', u', hr, hn⟩ := HN.out rfl
          simp only [World.size_alloc] at hr
          have Hr := hidOf hr
          have HN' := hidOf hn
          clear HN HS hr hn
          go_wp2_with (first | (at_builtin; refine wpList_append_run rfl _ _ 24 rfl _ _ _ rfl rfl Hr.out ?_) | fail)
          go_roundw
          case rel => exact .inr ⟨m + 1, c', _, _, rfl, rfl, rfl, by rw [← HD.out]; exact HN'.out⟩
          case measure => simp [intOf]
      · have hlt : k < s.size := by omega
        by_cases hd : s[k] = 32
        · have hd1 := w32n _ hd
          have HD := hidOf (HC.out.cut hlt hd)
          rw [HX.out] at HD
          have HM := hidOf (words_mem HD.out x (by simp))
          clear hd hks
          go_wp2_with fail
          rw [HX.out]
          refine (HT.out _).mono ?_
          rintro e w1 ⟨rfl, hb1⟩
          have HN := hidOf (fun hok => HR.out.next (bl_alloc hb1 (.cells #[.int .i64 (rdS x).1.1, .int .i64 (rdS x).1.2.1, .string (rdS x).1.2.2] 38)) x hok hxs hfew)
          have HB := hidOf (bl_trans HR.out.bel hb1)
          have HS := hidOf (fun hb => spec_bad H0.out HM.out (x := x) hb)
          clear hb1 HT
          obtain ⟨o, n, t, ok, he⟩ := rdV_eta (rdS x)
          rw [he] at HN HS ⊢
          rw [rdV_mk]
          cases ok
          · have HS2 := hidOf (HS.out rfl)
            clear HS HN HX HC HR HM HD hxs
            go_wp2_with fail
            go_ret2
            exact OutF.none HS2.out (bl_alloc HB.out _)
          · obtain ⟨a', c', u', hr, hn⟩ := HN.out rfl
            simp only [World.size_alloc] at hr
            have Hr := hidOf hr
            have HN' := hidOf hn
            clear HN HS hr hn
            go_wp2_with (first | (at_builtin; refine wpList_append_run rfl _ _ 24 rfl _ _ _ rfl rfl Hr.out ?_) | fail)
            go_roundw
            case rel => exact .inl ⟨k + 1, k + 1, m + 1, c', _, _, by go_num, by go_num, rfl, HD.out, HN'.out⟩
            case measure => simp [intOf]; omega
        · have hd1 := n32n _ hd
          have HD := hidOf (HC.out.go hlt hd)
          clear hd hks
          go_wp2
          go_roundw
          case rel => exact .inl ⟨k + 1, b, m, cp, _, xs, rfl, by go_num, rfl, HD.out, HR.out⟩
          case measure => simp [intOf]; omega
    · have hm : m ≤ 1000 := by
        have := Tb.parts_le s
        have e := hR.len
        unfold wordsS at e
        omega
      have hsh : ∀ p, p ∈ tmsS (wordsS s) → p.2.2.size ≤ maxLen := short_map _ rdS_short (Tb.parts_size s) (by unfold maxLen; omega)
      obtain ⟨a2, c2, e2, _, hT⟩ := ownF_of hR.row _ rfl hsh
      cases e2
      have HR := hidOf hR
      have HT := hidOf hT
      have HS := hidOf hsh
      have HO := hidOf (spec_ok H0.out HL.out hR.all)
      clear hR hT hsh
      go_wp2_with fail
      refine (specFilterText_any _ m cp (tmsS (wordsS s)) _ HT.out.tm (by omega)).mono ?_
      rintro e w1 ⟨rfl, hb1⟩
      have HB := hidOf (bl_trans HR.out.bel hb1)
      have HRow := hidOf (rowF_keep HR.out.row hb1)
      have HLn := hidOf HT.out.tm.len
      clear hb1 HT HR
      cases hok : okF (tmsS (wordsS s))
      · have HN := hidOf (show specF s = none by rw [HO.out, if_neg (by rw [hok]; simp)])
        have ev : ftV (tmsS (wordsS s)) = .tuple #[.string ⟨#[]⟩, .bool false] := by unfold ftV; rw [if_neg (by rw [hok]; simp)]
        rw [ev]
        clear ev hok
        go_wp2_with fail
        go_ret2
        exact OutF.none HN.out HB.out
      · have ev : ftV (tmsS (wordsS s)) = .tuple #[.string (joinT (tmsS (wordsS s))), .bool true] := by unfold ftV; rw [if_pos hok]
        rw [ev]
        have h12 : m ≤ 12 := by have := okF_few hok; rw [HLn.out] at this; exact this
        by_cases hj : joinT (tmsS (wordsS s)) = s
        · have HY := hidOf (show specF s = some (tmsS (wordsS s)) by rw [HO.out, if_pos ⟨hok, hj⟩])
          rw [hj]
          have hb : (s.toList == s.toList) = true := beqS rfl
          clear ev hok hj
          go_wp2_with fail
          go_ret2
          exact OutF.some HY.out HS.out HRow.out (by omega) HB.out
        · have HN := hidOf (show specF s = none by rw [HO.out, if_neg (by rintro ⟨_, h⟩; exact hj h)])
          obtain ⟨q, hq⟩ : ∃ q, joinT (tmsS (wordsS s)) = q := ⟨_, rfl⟩
          rw [hq] at hj ⊢
          have hb : (q.toList == s.toList) = false := bneS hj
          clear ev hok hj hq
          go_wp2_with fail
          go_ret2
          exact OutF.none HN.out HB.out
end Go.Proofs.YtljecghkechcaaaGreatDoor
