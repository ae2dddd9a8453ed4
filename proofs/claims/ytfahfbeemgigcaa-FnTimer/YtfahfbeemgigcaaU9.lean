/-
  The program's heap of timers: all of a token are stopped; the library's DeleteFunc and IndexFunc over it.
-/
import Derived.Test.YtfahfbeemgigcaaU8
namespace Go.Proofs.Ytfahfbeemgigcaa
open Go.RowKit Pl Il Th

/-- Is it of another token? -/
def keepT (tok : Int) (x : NT) : Bool := !(x.tok == tok)
theorem stopFn_any (x : NT) (tok : Int) (N : Nat) (w : World) (hN : w.cell? ⟨N, 0, none⟩ = some (.int .i64 tok)) :
    Calls Try.prog 59 #[ntV x, .pointer (some ⟨N, 0, none⟩)] w fun e w' => e = .returned (.bool (x.tok == tok)) ∧ Below w.heap.size w w' := by
  obtain ⟨a1, a2, a3⟩ := x
  unfold ntV
  simp only
  have hB : Below w.heap.size w (w.alloc (.cells #[.int .i64 a1, .int .i64 a2, .int .i64 a3] 83)) := bl_alloc (Below.refl _ _) _
  have hN2 : ∀ o, (w.alloc o).cell? ⟨N, 0, none⟩ = some (.int .i64 tok) := fun o => by rw [World.cell?_alloc_old _ _ _ (Nat.ne_of_lt (World.block_lt_of_cell? w _ hN))]; exact hN
  go_enter Try.func59, Try.ntmps59
  go_wp2
  go_ret
  exact ⟨rfl, hB⟩

theorem rowBlk {B : Nat} {w : World} {a : Option Addr} {n cap : Nat} {t : TypeId} {sz : Nat} {xs : List Value} (h : w.ownsRow B t sz (.slice a n cap) n xs) (hn : 0 < n) : ∃ b, a = some ⟨b, 0, none⟩ ∧ B ≤ b ∧ b < w.heap.size := by
  obtain ⟨_, ⟨e1, e2⟩ | ⟨b, cap', cur, e1, hB, hg, _⟩⟩ := h
  · omega
  · injection e1 with e1 _ _
    exact ⟨b, e1, hB, lt_blk hg⟩
/-- The first one of that token. -/
def IdxP (tok : Int) (l : List NT) (e : Ending) : Prop := ∃ k : Int, e = .returned (.int .i64 k) ∧ ((k = -1 ∧ ∀ x ∈ l, keepT tok x = true) ∨ ∃ m : Nat, k = (m : Int) ∧ m < l.length ∧ keepT tok (g l m) = false ∧ ∀ x ∈ l.take m, keepT tok x = true)
def fnV (N : Nat) : Value := .func (.func 59) #[] #[.pointer (some ⟨N, 0, none⟩)]
theorem idx_any (B : Nat) (a : Option Addr) (n cap : Nat) (l : List NT) (tok : Int) (N : Nat) (w : World) (ho : w.ownsRow B 83 3 (.slice a n cap) n (flat l)) (hl : l.length = n) (hn : n ≤ 100) (hN : w.cell? ⟨N, 0, none⟩ = some (.int .i64 tok)) :
    Calls Try.prog 66 #[.slice a n cap, fnV N] w fun e w' => IdxP tok l e ∧ Below w.heap.size w w' := by
  unfold fnV
  have HL := hidOf hl
  have HO := hidOf ho
  clear hl ho
  go_enter Try.func66, Try.ntmps66
  go_wp2_with fail
  go_loopw [8] (fun i wr => ∃ (k : Nat), k ≤ n ∧ i = .int .i64 k ∧ (∀ x ∈ l.take k, keepT tok x = true) ∧ Below w.heap.size w wr) (fun i _ => n - (intOf i).toNat)
  case atStart => exact ⟨0, Nat.zero_le _, rfl, by simp, Below.refl _ _⟩
  case round =>
    rename_i wr
    obtain ⟨k, hk, rfl, hall, hB⟩ := hrel
    have HA := hidOf hall
    have HB := hidOf hB
    clear hall
    by_cases hlt : k < n
    · have hki : (0 : Int) ≤ (k : Int) ∧ (k : Int) < (n : Int) := by omega
      have hkl : k < l.length := by rw [HL.out]; exact hlt
      obtain ⟨b, rfl, hBb, hbl⟩ := rowBlk HO.out (by omega)
      obtain ⟨x1, y1, z1⟩ := row_cells HO.out HL.out hkl
      rw [← hB.cell (p := ⟨b, k * 3, none⟩) hbl] at x1
      rw [← hB.cell (p := ⟨b, k * 3 + 1, none⟩) hbl] at y1
      rw [← hB.cell (p := ⟨b, k * 3 + 2, none⟩) hbl] at z1
      have hNr : wr.cell? ⟨N, 0, none⟩ = some (.int .i64 tok) := by rw [hB.cell (p := ⟨N, 0, none⟩) (World.block_lt_of_cell? w _ hN)]; exact hN
      have hc := stopFn_any (g l k) tok N wr hNr
      unfold ntV at hc
      have HC := hidOf hc
      obtain ⟨y, hy⟩ : ∃ y, g l k = y := ⟨_, rfl⟩
      rw [hy] at x1 y1 z1 HC
      have HY := hidOf hy
      clear hc hy hB hNr hkl
      go_wp2_with fail
      refine (HC.out).mono ?_
      rintro e w1 ⟨rfl, hb1⟩
      have hB1 := bl_trans HB.out hb1
      have HB1 := hidOf hB1
      clear hB1 hb1 HC HB
      cases ht : (y.tok == tok)
      · go_wp2
        go_roundw
        case rel =>
          refine ⟨k + 1, by omega, by go_num, ?_, HB1.out⟩
          intro x hx
          rw [take_g l k (by rw [HL.out]; exact hlt)] at hx
          rcases List.mem_append.1 hx with hx | hx
          · exact HA.out x hx
          · rw [List.mem_singleton.1 hx, HY.out]; unfold keepT; rw [ht]; rfl
        case measure => simp [intOf]; omega
      · go_wp2
        go_ret
        exact ⟨⟨_, rfl, .inr ⟨k, rfl, by rw [HL.out]; exact hlt, by rw [HY.out]; unfold keepT; rw [ht]; rfl, HA.out⟩⟩, HB1.out⟩
    · have hki : ¬ (k : Int) < (n : Int) := by omega
      clear hB
      go_wp2
      go_ret
      refine ⟨⟨_, rfl, .inl ⟨rfl, ?_⟩⟩, HB.out⟩
      have := HA.out
      rwa [List.take_of_length_le (by rw [HL.out]; omega)] at this

theorem clear_row (w : World) (ty : TypeId) (b o n c : Nat) (cur : Array Value) (hn : 0 < n) (hg : w.heap[b]? = some (.cells cur 83 (0, 0))) (hs : o + n * 3 ≤ cur.size) :
    ∃ arr : Array Value, arr.size = cur.size ∧ arr.toList.take o = cur.toList.take o ∧ (Builtin.clear_ #[78] ty #[.slice (some ⟨b, o, none⟩) n c]).run Try.prog w = .ok (.tuple #[]) (w.setRow b arr) := by
  have hzl : (Builtin.zeroCells (Value.agg #[.int .i64 0, .int .i64 0, .int .i64 0]).cells n).toList.length = n * 3 := by
    rw [Array.length_toList, size_zeroCells]; rfl
  refine ⟨(cur.toList.take o ++ (Builtin.zeroCells (Value.agg #[.int .i64 0, .int .i64 0, .int .i64 0]).cells n).toList ++ cur.toList.drop (o + (Builtin.zeroCells (Value.agg #[.int .i64 0, .int .i64 0, .int .i64 0]).cells n).toList.length)).toArray, ?_, ?_, ?_⟩
  · rw [hzl, List.size_toArray, List.length_append, List.length_append, hzl, List.length_take, List.length_drop, Array.length_toList]; omega
  · simp only
    rw [List.append_assoc, List.take_append_of_le_length (by rw [List.length_take, Array.length_toList]; omega), List.take_take, Nat.min_self]
  have hst := run_storeCells_at Try.prog b o 83 (Builtin.zeroCells (Value.agg #[.int .i64 0, .int .i64 0, .int .i64 0]).cells n).toList 0 cur w hg (by rw [hzl]; omega) (by
    intro v hv
    simp only [Builtin.zeroCells, Array.mem_toList_iff, Array.mem_map, Array.mem_range] at hv
    obtain ⟨i, _, rfl⟩ := hv
    have h3 : (Value.agg #[.int .i64 0, .int .i64 0, .int .i64 0]).cells = #[.int .i64 0, .int .i64 0, .int .i64 0] := rfl
    rw [h3]
    have hm : i % 3 < 3 := Nat.mod_lt _ (by omega)
    have : i % 3 = 0 ∨ i % 3 = 1 ∨ i % 3 = 2 := by omega
    rcases this with e | e | e <;> simp [e] <;> rfl)
  simp only [Nat.add_zero] at hst
  obtain ⟨m, rfl⟩ : ∃ m, n = m + 1 := ⟨n - 1, by omega⟩
  simp only [Builtin.clear_]
  simp [run_underlying Try.underlying78, hst]
theorem grown_below {w w1 w2 : World} {r : Option Nat} (h : w.grownBy w1 r) (q : Below w1.heap.size w1 w2) : w.grownBy w2 r :=
  ⟨q.os.trans h.os, q.tape.trans h.tape, q.output.trans h.output, Nat.le_trans h.size q.size, fun k hk hne => (q.block k (Nat.lt_of_lt_of_le hk h.size)).trans (h.block k hk hne)⟩
theorem own_keep3 {B : Nat} {w w' : World} {v : Value} {n : Nat} {xs : List Value} (h : w.ownsRow B 83 3 v n xs) (q : Below w.heap.size w w') : w'.ownsRow B 83 3 v n xs := by
  refine h.kept (row := none) ⟨q.os, q.tape, q.output, q.size, fun k hk _ => q.block k hk⟩ ?_
  cases v.ownBlock <;> simp
/-- Those of another token have moved up: i of the first j. -/
structure DelR (w : World) (B b n cap : Nat) (tok : Int) (l : List NT) (i j : Nat) (L : List NT) (wr : World) : Prop where
  len : L.length = n
  fst : L.take i = (l.take j).filter (keepT tok)
  snd : L.drop j = l.drop j
  row : wr.ownsRow B 83 3 (.slice (some ⟨b, 0, none⟩) n cap) n (flat L)
  gr : w.grownBy wr (some b)
  lt : i < j
  le : j ≤ n
theorem DelR.keep {w : World} {B b n cap : Nat} {tok : Int} {l : List NT} {i j : Nat} {L : List NT} {wr u : World} (h : DelR w B b n cap tok l i j L wr) (q : Below wr.heap.size wr u) : DelR w B b n cap tok l i j L u :=
  ⟨h.len, h.fst, h.snd, own_keep3 h.row q, grown_below h.gr q, h.lt, h.le⟩
theorem g_drop {l : List NT} {j : Nat} (_hj : j < l.length) : g l j = g (l.drop j) 0 := by
  unfold g
  rw [List.getD_eq_getElem?_getD, List.getD_eq_getElem?_getD, List.getElem?_drop, Nat.add_zero]
theorem DelR.at {w : World} {B b n cap : Nat} {tok : Int} {l : List NT} {i j : Nat} {L : List NT} {wr : World} (h : DelR w B b n cap tok l i j L wr) (hl : l.length = n) (hj : j < n) : g L j = g l j := by
  rw [g_drop (by rw [h.len]; exact hj), g_drop (l := l) (by rw [hl]; exact hj), h.snd]
theorem DelR.skip {w : World} {B b n cap : Nat} {tok : Int} {l : List NT} {i j : Nat} {L : List NT} {wr : World} (h : DelR w B b n cap tok l i j L wr) (hl : l.length = n) (hj : j < n) (hk : keepT tok (g l j) = false) : DelR w B b n cap tok l i (j + 1) L wr := by
  refine ⟨h.len, ?_, ?_, h.row, h.gr, by have := h.lt; omega, by omega⟩
  · rw [take_g l j (by omega), List.filter_append, h.fst]; simp [hk]
  · rw [← List.drop_drop, ← List.drop_drop, h.snd]
theorem DelR.put {w : World} {B b n cap : Nat} {tok : Int} {l : List NT} {i j : Nat} {L : List NT} {wr : World} (h : DelR w B b n cap tok l i j L wr) (hl : l.length = n) (hj : j < n) (hk : keepT tok (g l j) = true) (y : NT) (hy : g l j = y) :
    DelR w B b n cap tok l (i + 1) (j + 1) (L.set i y) (((wr.setCell ⟨b, i * 3, none⟩ (.int .i64 y.tm)).setCell ⟨b, i * 3 + 1, none⟩ (.int .i64 y.tok)).setCell ⟨b, i * 3 + 2, none⟩ (.int .i64 y.num)) := by
  have hlt := h.lt
  have hlen := h.len
  refine ⟨by rw [List.length_set]; exact hlen, ?_, ?_, set3_own h.row i y (by omega), grown_set (grown_set (grown_set h.gr _ _) _ _) _ _, by omega, by omega⟩
  · rw [take_g l j (by omega), List.filter_append, ← h.fst, take_g (L.set i y) i (by rw [List.length_set]; omega), g_set L i i y (by omega), if_pos rfl, List.take_set_of_le (Nat.le_refl _)]
    rw [hy] at hk ⊢
    simp [hk]
  · rw [List.drop_set_of_lt (by omega), ← List.drop_drop, ← List.drop_drop, h.snd]

def DelP (w : World) (B : Nat) (a : Option Addr) (n cap : Nat) (tok : Int) (l : List NT) (e : Ending) (w' : World) : Prop :=
  ∃ m, e = .returned (.slice a m cap) ∧ m ≤ n ∧ (l.filter (keepT tok)).length = m ∧ w'.ownsRow B 83 3 (.slice a m cap) m (flat (l.filter (keepT tok))) ∧ w.grownBy w' (Value.slice a n cap).ownBlock

set_option maxRecDepth 100000 in
set_option maxHeartbeats 4000000 in
theorem del_any (B : Nat) (a : Option Addr) (n cap : Nat) (l : List NT) (tok : Int) (N : Nat) (w : World) (ho : w.ownsRow B 83 3 (.slice a n cap) n (flat l)) (hl : l.length = n) (hn : n ≤ 100) (hN : w.cell? ⟨N, 0, none⟩ = some (.int .i64 tok)) (hNb : ∀ b, a = some ⟨b, 0, none⟩ → N ≠ b) :
    Calls Try.prog 58 #[.slice a n cap, fnV N] w fun e w' => DelP w B a n cap tok l e w' := by
  have hi := idx_any B a n cap l tok N w ho hl hn hN
  unfold fnV at hi ⊢
  have HI := hidOf hi
  have HL := hidOf hl
  have HO := hidOf ho
  have HNb := hidOf hNb
  clear hi hl ho hNb
  go_enter Try.func58, Try.ntmps58
  go_wp2_with fail
  refine (HI.out).mono ?_
  rintro e w1 ⟨⟨kk, rfl, ⟨rfl, hall⟩ | ⟨m, rfl, hm, hnk, hall⟩⟩, hb1⟩
  · have hf : l.filter (keepT tok) = l := List.filter_eq_self.2 hall
    have hres : DelP w B a n cap tok l (.returned (.slice a n cap)) w1 := ⟨n, rfl, Nat.le_refl _, by rw [hf]; exact HL.out, by rw [hf]; exact own_keep3 HO.out hb1, grown_below (grown_refl w _) hb1⟩
    have HRes := hidOf hres
    clear HI hb1 hall hf hres
    go_wp2
    go_ret
    exact HRes.out
  · have hmn : m < n := by rw [← HL.out]; exact hm
    obtain ⟨b, rfl, hBb, hbl⟩ := rowBlk HO.out (by omega)
    have hNb' : N ≠ b := HNb.out b rfl
    have hcap : n ≤ cap := by
      obtain ⟨_, ⟨e1, e2⟩ | ⟨q, cap', cur, e1, _, _, hc, _⟩⟩ := id HO.out
      · omega
      · injection e1 with _ _ e3; omega
    have hD0 : DelR w B b n cap tok l m (m + 1) l w1 := ⟨HL.out, by rw [take_g l m hm, List.filter_append, List.filter_eq_self.2 hall]; simp [hnk], rfl, own_keep3 HO.out hb1, grown_below (grown_refl w _) hb1, by omega, by omega⟩
    have HD0 := hidOf hD0
    have hm1 : ((m : Int) == -1) = false := by simp
    clear HI hb1 hD0 hall hnk hm
    go_wp2_with fail
    go_loopw [5, 6] (fun x y wr => ∃ (i j : Nat) (L : List NT), x = .int .i64 i ∧ y = .int .i64 j ∧ DelR w B b n cap tok l i j L wr) (fun _ y _ => n - (intOf y).toNat)
    case atStart => exact ⟨m, m + 1, l, rfl, by go_num, HD0.out⟩
    case round =>
      rename_i wr
      obtain ⟨i, j, L, rfl, rfl, hD⟩ := hrel
      have HD := hidOf hD
      have hij := hD.lt
      have hjn := hD.le
      clear HD0 hm1 hmn
      by_cases hlt : j < n
      · have hji : (0 : Int) ≤ (j : Int) ∧ (j : Int) < (n : Int) := by omega
        obtain ⟨x1, y1, z1⟩ := row_cells hD.row hD.len (i := j) (by rw [hD.len]; exact hlt)
        rw [hD.at HL.out hlt] at x1 y1 z1
        have hNr : wr.cell? ⟨N, 0, none⟩ = some (.int .i64 tok) := hD.gr.cell hN (by simp; exact hNb')
        obtain ⟨y, hy⟩ : ∃ y, g l j = y := ⟨_, rfl⟩
        rw [hy] at x1 y1 z1
        have hA := hD.keep (bl_alloc (Below.refl _ _) (.cells #[.int .i64 y.tm, .int .i64 y.tok, .int .i64 y.num] 83))
        have hNA : (wr.alloc (.cells #[.int .i64 y.tm, .int .i64 y.tok, .int .i64 y.num] 83)).cell? ⟨N, 0, none⟩ = some (.int .i64 tok) := by rw [World.cell?_alloc_old _ _ _ (Nat.ne_of_lt (World.block_lt_of_cell? wr _ hNr))]; exact hNr
        have hc := stopFn_any y tok N _ hNA
        unfold ntV at hc
        have HC := hidOf hc
        have HA := hidOf hA
        have HY := hidOf hy
        have v0 : Box3 wr.heap.size (.int .i64 y.tm) (.int .i64 y.tok) (.int .i64 y.num) (wr.alloc (.cells #[.int .i64 y.tm, .int .i64 y.tok, .int .i64 y.num] 83)) := Box3.new wr _ _ _ _
        have HV := hidOf v0
        clear hc hA hy hNA hNr hD v0
        go_wp2_with fail
        refine (HC.out).mono ?_
        rintro e2 w2 ⟨rfl, hb2⟩
        have hD2 := HA.out.keep hb2
        cases ht : (y.tok == tok)
        · have hkt : keepT tok (g l j) = true := by rw [HY.out]; unfold keepT; rw [ht]; rfl
          have hD3 := hD2.put HL.out hlt hkt y HY.out
          obtain ⟨_, v0, v1, v2, _⟩ := HV.out.keep hb2
          obtain ⟨c0, c1, c2⟩ := row_cells hD2.row hD2.len (i := i) (by rw [hD2.len]; omega)
          have hf2 : ∀ o, w2.frozen? ⟨b, o, none⟩ = false := fun o => hD2.row.frozenAt o
          have hii : (0 : Int) ≤ (i : Int) ∧ (i : Int) < (n : Int) := by omega
          have HD3 := hidOf hD3
          clear hD3 hD2 HA HV HC hb2 hkt x1 y1 z1
          go_wp2
          go_roundw
          case rel => exact ⟨i + 1, j + 1, _, by go_num, by go_num, HD3.out⟩
          case measure => simp [intOf]; omega
        · have hkt : keepT tok (g l j) = false := by rw [HY.out]; unfold keepT; rw [ht]; rfl
          have hD3 := hD2.skip HL.out hlt hkt
          have HD3 := hidOf hD3
          clear hD3 hD2 HA HV HC hb2 hkt x1 y1 z1
          go_wp2
          go_roundw
          case rel => exact ⟨i, j + 1, _, rfl, by go_num, HD3.out⟩
          case measure => simp [intOf]; omega
      · have hji : ¬ (j : Int) < (n : Int) := by omega
        have hin : i < n := by omega
        obtain ⟨_, ⟨e1, _⟩ | ⟨q, cap', cur, e1, _, hg, _, hmx, hs, htk⟩⟩ := id hD.row
        · cases e1
        injection e1 with e1 _ e3
        injection e1 with e1
        injection e1 with e1 _ _
        subst e1 e3
        obtain ⟨arr, hzl, hza, hcl⟩ := clear_row wr 0 b (i * 3) (n - i) (cap - i) cur (by omega) hg (by rw [hs]; omega)
        have hfil : (l.filter (keepT tok)).length = i := by
          have e := congrArg List.length hD.fst
          rw [List.length_take, hD.len, List.take_of_length_le (by rw [HL.out]; omega)] at e
          omega
        have hfl : l.filter (keepT tok) = L.take i := by rw [hD.fst, List.take_of_length_le (by rw [HL.out]; omega)]
        have hres : DelP w B (some ⟨b, 0, none⟩) n cap tok l (.returned (.slice (some ⟨b, 0, none⟩) i cap)) (wr.setRow b arr) := by
          refine ⟨i, rfl, by omega, hfil, ?_, ?_⟩
          · have hcut := own_cut hD.row (m := i) (by omega) hD.len
            rw [hfl]
            refine ⟨hcut.1, .inr ⟨b, cap, _, rfl, hBb, setRow_heap wr b cur _ _ _ hg, by omega, hmx, ?_, ?_⟩⟩
            · rw [hzl, hs]
            · rw [hza, flat_take, ← htk, List.take_take, Nat.min_eq_left (by omega)]
          · exact ⟨hD.gr.os, hD.gr.tape, hD.gr.output, by simpa using hD.gr.size, fun k hk hne => by
              rw [setRow_other _ _ _ _ (by rintro rfl; exact hne rfl)]
              exact hD.gr.block k hk hne⟩
        have HRes := hidOf hres
        have HCl := hidOf hcl
        have k1 : ¬ (cap : Int) < (i : Int) := by omega
        have k2 : ¬ (n : Int) < (i : Int) := by omega
        have k3 : ¬ cap = i := by omega
        clear hD HD hg htk hs hmx hres hcl hfil hfl hzl hza
        have hcl := HCl.out
        go_wp2
        go_ret
        exact HRes.out
end Go.Proofs.Ytfahfbeemgigcaa
