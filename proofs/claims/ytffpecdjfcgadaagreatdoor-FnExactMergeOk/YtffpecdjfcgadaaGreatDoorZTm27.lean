/-
  The program's copies: subscribers.
  The specification's copy of a ring.
  The program's copy of a ring.
  The program's round of messages: where those of some numbers stand.
  copy of messages into a block.
-/
import Derived.Test.YtffpecdjfcgadaaGreatDoorZTm26
import Derived.Laws.OwnMore
import Derived.Test.YtffpecdjfcgadaaGreatDoorZTm10
import Derived.Test.YtffpecdjfcgadaaGreatDoorZTm17
import Derived.Deep.CutRange
import Derived.Test.YtffpecdjfcgadaaGreatDoorZTm24
import Derived.Laws.CopyRow
namespace Go.Proofs.YtffpecdjfcgadaaGreatDoor
open Go.RowKit Pl Il

theorem copiedS_any (a : Option Addr) (n cap : Nat) (xs : List Sa) (w : World) (hI : SubAt w a n xs) (hn : n ≤ 2097152) :
    Calls Tryz.prog 96 #[.slice a n cap] w fun e w' => ∃ a' c', e = .returned (.slice a' n c') ∧ w'.ownsRow w.heap.size 90 7 (.slice a' n c') n (sflat xs) ∧ Below w.heap.size w w' := by
  obtain ⟨a', c', w', hr, ho, hg, _⟩ := append_subR w.heap.size 0 (.slice none 0 0) [] a n cap xs w (World.ownsRow_nil _ _ _ _) (Nat.le_refl _) hI (by omega)
  rw [Nat.zero_add] at hr ho
  rw [List.nil_append] at ho
  have hb : Below w.heap.size w w' := (Below.refl _ _).grown hg (Nat.le_refl _) (fun k hk => by cases hk)
  have Hr := hidOf hr
  have HO := hidOf ho
  clear hr ho hI hg
  go_enter Tryz.func96, Tryz.ntmps96
  go_wp2_with (at_builtin; refine wpList_append_run rfl _ _ 51 rfl _ _ _ rfl rfl Hr.out ?_)
  go_ret
  exact ⟨_, _, rfl, HO.out, hb⟩
theorem sflat_cons (x : Sa) (l : List Sa) : sflat (x :: l) = sC x ++ sflat l := by simp [sflat]
theorem sflat_set : ∀ (ys : List Sa) (k : Nat) (a : Option Addr) (n c : Nat), k < ys.length → (sflat ys).set (k * 7 + 6) (.slice a n c) = sflat (ys.set k ⟨(sg ys k).s, a, n, c⟩)
  | [], k, _, _, _, h => by simp at h
  | y :: l, 0, a, n, c, _ => by
    rw [sflat_cons, List.set_append_left _ _ (by simp), List.set_cons_zero, sflat_cons]
    rfl
  | y :: l, k + 1, a, n, c, h => by
    have hc : (sC y).length = 7 := rfl
    rw [sflat_cons, List.set_append_right _ _ (by rw [hc]; omega), hc, show (k + 1) * 7 + 6 - 7 = k * 7 + 6 by omega, sflat_set l k a n c (by simpa using h), List.set_cons_succ, sflat_cons]
    rfl
/-- Subscribers that a call has made: a row, and a row for each filter, all apart. -/
structure SRow (B : Nat) (w : World) (a : Option Addr) (n c : Nat) (ys : List Sa) : Prop where
  sb : w.ownsRow B 90 7 (.slice a n c) n (sflat ys)
  fl : ∀ x, x ∈ ys → w.ownsRow B 145 3 (.slice x.a x.n x.c) x.n (qflat x.s.fl)
  fls : ∀ x, x ∈ ys → ∀ p, p ∈ x.s.fl → p.2.2.size ≤ maxLen
  apt : Apt ((Value.slice a n c).ownBlock :: ys.map fun x => (Value.slice x.a x.n x.c).ownBlock)
/-- The first k filters are copied. -/
structure CsT (w : World) (g n c k : Nat) (xs ys : List Sa) (u : World) : Prop where
  len : ys.length = n
  sb : u.ownsRow w.heap.size 90 7 (.slice (some ⟨g, 0, none⟩) n c) n (sflat ys)
  same : ∀ i, i < n → (sg ys i).s = (sg xs i).s ∧ (sg ys i).n = (sg xs i).n
  rest : ∀ i, i < n → k ≤ i → sg ys i = sg xs i
  fl : ∀ i, i < k → u.ownsRow w.heap.size 145 3 (.slice (sg ys i).a (sg ys i).n (sg ys i).c) (sg ys i).n (qflat (sg ys i).s.fl)
  ne : ∀ i, i < k → (Value.slice (sg ys i).a (sg ys i).n (sg ys i).c).ownBlock ≠ some g
  ap : ∀ i j, i < j → j < k → ∀ b, (Value.slice (sg ys i).a (sg ys i).n (sg ys i).c).ownBlock = some b → (Value.slice (sg ys j).a (sg ys j).n (sg ys j).c).ownBlock ≠ some b
  below : Below w.heap.size w u
theorem sg_set_same {ys : List Sa} {k : Nat} {x : Sa} (h : k < ys.length) : sg (ys.set k x) k = x := by rw [sg_eq (by simpa using h)]; simp
theorem sg_set_ne {ys : List Sa} {k i : Nat} {x : Sa} (h : i ≠ k) : sg (ys.set k x) i = sg ys i := by
  unfold sg
  rw [List.getD_eq_getElem?_getD, List.getD_eq_getElem?_getD, List.getElem?_set_ne (fun e => h e.symm)]
/-- One more. -/
theorem CsT.step {w : World} {g n c k : Nat} {xs ys : List Sa} {u u' : World} {a6 : Option Addr} {c6 : Nat} (h : CsT w g n c k xs ys u) (hk : k < n) (ho : u'.ownsRow u.heap.size 145 3 (.slice a6 (sg xs k).n c6) (sg xs k).n (qflat (sg xs k).s.fl)) (hb : Below u.heap.size u u') :
    CsT w g n c (k + 1) xs (ys.set k ⟨(sg ys k).s, a6, (sg xs k).n, c6⟩) (u'.setCell ⟨g, k * 7 + 6, none⟩ (.slice a6 (sg xs k).n c6)) := by
  have hky : k < ys.length := by rw [h.len]; exact hk
  have hg := row_lt h.sb (q := g) rfl
  have st := (ownsRow_keep h.sb hb).stored (k * 7 + 6) (.slice a6 (sg xs k).n c6)
  rw [sflat_set _ _ _ _ _ hky] at st
  have nb : ∀ q, (Value.slice a6 (sg xs k).n c6).ownBlock = some q → u.heap.size ≤ q := fun q e => (row_lt ho e).1
  have hs : u.heap.size ≤ u'.heap.size := hb.size
  have gs := grown_setC u' g (k * 7 + 6) (.slice a6 (sg xs k).n c6)
  refine ⟨by simpa using h.len, st.1, fun i hi => ?_, fun i hi hki => ?_, fun i hi => ?_, fun i hi => ?_, fun i j hij hj => ?_, bl_setB (bl_trans h.below hb) _ _ hg.1 _⟩
  · by_cases e : i = k
    · subst e
      rw [sg_set_same hky]
      exact ⟨(h.same i hi).1, rfl⟩
    · rw [sg_set_ne e]
      exact h.same i hi
  · rw [sg_set_ne (by omega)]
    exact h.rest i hi (by omega)
  · by_cases e : i = k
    · subst e
      rw [sg_set_same hky]
      have := (h.same i hk).1
      simp only
      rw [this]
      exact rowG (rowM ho h.below.size) gs (fun q e1 e2 => by injection e1 with e1; have := nb q e2; omega)
    · rw [sg_set_ne e]
      exact rowG (ownsRow_keep (h.fl i (by omega)) hb) gs (fun q e1 e2 => by injection e1 with e1; exact h.ne i (by omega) (by rw [e2, e1]))
  · by_cases e : i = k
    · subst e
      rw [sg_set_same hky]
      intro e2
      have := nb g e2
      omega
    · rw [sg_set_ne e]
      exact h.ne i (by omega)
  · by_cases e : j = k
    · subst e
      rw [sg_set_same hky, sg_set_ne (by omega)]
      intro b e1 e2
      have h1 := (row_lt (h.fl i hij) e1).2
      have h2 := nb b e2
      omega
    · rw [sg_set_ne e, sg_set_ne (by omega)]
      exact h.ap i j hij (by omega)
theorem CsT.done {w : World} {g n c : Nat} {xs ys : List Sa} {u : World} (h : CsT w g n c n xs ys u) (hl : xs.length = n) (hfs : ∀ x, x ∈ xs → ∀ p, p ∈ x.s.fl → p.2.2.size ≤ maxLen) : SRow w.heap.size u (some ⟨g, 0, none⟩) n c ys ∧ svs ys = svs xs ∧ ∀ y, y ∈ ys → ∃ x, x ∈ xs ∧ y.n = x.n := by
  have mem : ∀ y, y ∈ ys → ∃ i, i < n ∧ y = sg ys i := fun y hy => by
    obtain ⟨i, hi, rfl⟩ := List.getElem_of_mem hy
    exact ⟨i, by rw [← h.len]; exact hi, (sg_eq hi).symm⟩
  refine ⟨⟨h.sb, fun y hy => ?_, fun y hy => ?_, ?_⟩, ?_, fun y hy => ?_⟩
  · obtain ⟨i, hi, rfl⟩ := mem y hy
    exact h.fl i hi
  · obtain ⟨i, hi, rfl⟩ := mem y hy
    rw [(h.same i hi).1]
    exact hfs _ (sg_mem (by omega))
  · unfold Apt
    rw [List.pairwise_cons]
    refine ⟨fun p hp b e => ?_, ?_⟩
    · obtain ⟨y, hy, rfl⟩ := List.mem_map.1 hp
      obtain ⟨i, hi, rfl⟩ := mem y hy
      have e' : g = b := by simpa [Value.ownBlock] using e
      rw [← e']
      exact h.ne i hi
    · rw [List.pairwise_map, List.pairwise_iff_getElem]
      intro i j hi hj hij
      rw [← sg_eq hi, ← sg_eq hj]
      exact h.ap i j hij (by rw [← h.len]; exact hj)
  · refine List.ext_getElem (by simp [svs, h.len, hl]) fun i h1 h2 => ?_
    have hi : i < n := by simpa [svs, h.len] using h1
    have e1 : i < ys.length := by rw [h.len]; exact hi
    have e2 : i < xs.length := by omega
    simp only [svs, List.getElem_map]
    rw [← sg_eq e1, ← sg_eq e2]
    exact (h.same i hi).1
  · obtain ⟨i, hi, rfl⟩ := mem y hy
    exact ⟨sg xs i, sg_mem (by omega), (h.same i hi).2⟩
/-- Subscribers were copied. -/
def CsP (w : World) (n : Nat) (xs : List Sa) (e : Ending) (w' : World) : Prop := ∃ a' c' ys, e = .returned (.slice a' n c') ∧ SRow w.heap.size w' a' n c' ys ∧ svs ys = svs xs ∧ (∀ y, y ∈ ys → ∃ x, x ∈ xs ∧ y.n = x.n) ∧ Below w.heap.size w w'
set_option maxRecDepth 100000 in
set_option maxHeartbeats 4000000 in
theorem copiedSubs_any (a : Option Addr) (n cap : Nat) (xs : List Sa) (w : World) (hI : SubAt w a n xs) (hn : n ≤ 2097152) (hf : ∀ x, x ∈ xs → x.n ≤ 2097152) :
    Calls Tryz.prog 86 #[.slice a n cap] w fun e w' => CsP w n xs e w' := by
  have HC := hidOf (copiedS_any a n cap xs w hI hn)
  have HI := hidOf hI
  have HF := hidOf hf
  clear hI hf
  go_enter Tryz.func86, Tryz.ntmps86
  go_wp2_with fail
  refine (HC.out).mono ?_
  rintro e w1 ⟨a', c', rfl, ho, hb⟩
  have HO := hidOf ho
  have HB := hidOf hb
  have hl := HI.out.len
  have HL := hidOf hl
  clear HC ho hb hl
  rcases Nat.eq_zero_or_pos n with h0 | hpos
  · subst h0
    have hx : xs = [] := List.length_eq_zero_iff.1 HL.out
    subst hx
    go_wp2_with fail
    go_loop [9] (fun i => i = .int .i64 0) (fun _ => 0)
    case atStart => rfl
    case round =>
      subst hrel
      go_wp2
      go_ret
      exact ⟨_, _, [], rfl, ⟨HO.out, fun x hx => (by cases hx), fun x hx => (by cases hx), by simp [Apt]⟩, rfl, fun y hy => (by cases hy), HB.out⟩
  obtain ⟨_, _, hr | ⟨g, rfl, _⟩⟩ := rowS HO.out
  · omega
  have HS := hidOf (show CsT w g n c' 0 xs xs w1 from ⟨HL.out, HO.out, fun i _ => ⟨rfl, rfl⟩, fun i _ _ => rfl, fun i hi => (by omega), fun i hi => (by omega), fun i j _ hj => (by omega), HB.out⟩)
  go_wp2_with fail
  go_loopw [9] (fun i wr => ∃ (k : Nat) (ys : List Sa), k ≤ n ∧ i = .int .i64 k ∧ CsT w g n c' k xs ys wr) (fun i _ => n - (intOf i).toNat)
  case atStart => exact ⟨0, xs, Nat.zero_le _, rfl, HS.out⟩
  case round =>
    rename World => wr
    obtain ⟨k, ys, hk, rfl, hS⟩ := hrel
    clear HS
    by_cases hlt : k < n
    · obtain ⟨_, _, hr | ⟨g', e, _, hgl, hfr, hcell⟩⟩ := rowS hS.sb
      · omega
      cases e
      have c6 := (hcell k hlt).c6
      rw [hS.rest k hlt (Nat.le_refl _)] at c6
      rw [Nat.zero_add] at c6
      have hkl : k < xs.length := by rw [HL.out]; exact hlt
      have hxn := HF.out _ (sg_mem hkl)
      have HC := hidOf (copiedF_any (sg xs k).a (sg xs k).n (sg xs k).c (sg xs k).s.fl wr ((HI.out.keep hS.below).fil _ (sg_mem hkl)) hxn)
      have HSt := hidOf (fun (u' : World) (a6 : Option Addr) (c6 : Nat) => CsT.step (u' := u') (a6 := a6) (c6 := c6) hS hlt)
      obtain ⟨x, hx⟩ : ∃ x, sg xs k = x := ⟨_, rfl⟩
      rw [hx] at c6 hxn HC HSt
      have hki : (k : Int) < (n : Int) := by omega
      clear hcell hS hx hkl
      go_wp2_with fail
      refine (HC.out).mono ?_
      rintro e w5 ⟨a6, c6', rfl, ho6, hb6⟩
      have HSt2 := hidOf (HSt.out w5 a6 c6' ho6 hb6)
      have d6 : w5.cell? ⟨g, k * 7 + 6, none⟩ = some (.slice x.a x.n x.c) := by rw [hb6.cell (p := ⟨g, k * 7 + 6, none⟩) hgl]; exact c6
      have d7 : ∀ o, w5.frozen? ⟨g, o, none⟩ = false := fun o => by rw [hb6.frozen (p := ⟨g, o, none⟩) hgl]; exact hfr o
      clear ho6 hb6 HC HSt c6 hfr
      go_wp2
      go_roundw
      case rel => exact ⟨k + 1, _, by omega, by go_num, HSt2.out⟩
      case measure => simp [intOf]; omega
    · obtain rfl : k = n := by omega
      have HD := hidOf (hS.done HL.out (fun x hx => (HI.out.fil x hx).short))
      have HB2 := hidOf hS.below
      clear hS
      go_wp2
      go_ret
      exact ⟨_, _, ys, rfl, HD.out.1, HD.out.2.1, HD.out.2.2, HB2.out⟩
end Go.Proofs.YtffpecdjfcgadaaGreatDoor
namespace Go.Proofs.YtffpecdjfcgadaaGreatDoor
open Go.RowKit Pl Il

theorem row_empty (w : World) (t : TypeId) (s : Nat) : (w.alloc (.cells #[] t)).ownsRow w.heap.size t s (.slice (some ⟨w.heap.size, 0, none⟩) 0 0) 0 [] := World.ownsRow_made w #[] 0 (Nat.le_refl _) (by unfold maxLen; omega) (by simp)
theorem bl_trans2 {B B' : Nat} {w w1 w2 : World} (h : Below B w w1) (h' : Below B' w1 w2) (hB : B ≤ B') : Below B w w2 :=
  ⟨h'.os.trans h.os, h'.tape.trans h.tape, h'.output.trans h.output, Nat.le_trans h.size h'.size, fun k hk => (h'.block k (by omega)).trans (h.block k hk)⟩
/-- A ring was copied. -/
def CpR (w : World) (M : Rm) (v : Rv) (e : Ending) (w' : World) : Prop := ∃ M' : Rm, e = .returned (.agg #[.int .i64 v.cp, .int .i64 v.se, .slice M'.ia M'.i M'.ic, .int .i64 v.nx, .slice M'.sa M'.s M'.sc, .slice M'.la M'.l M'.lc, .slice M'.ga M'.g M'.gc, .bool v.cl]) ∧ RRow w.heap.size w' M' v ∧ (∀ k, RLe M k → RLe M' k) ∧ Below w.heap.size w w'
/-- What the copying holds on to. -/
structure CpS (w : World) (M : Rm) (v : Rv) (M' : Rm) (v' : Rv) (u : World) : Prop where
  arg : BoxL w.heap.size (rC M v) u
  res : BoxL (w.heap.size + 1) [.int .i64 0, .int .i64 0, .slice none 0 0, .int .i64 0, .slice none 0 0, .slice none 0 0, .slice none 0 0, .bool false] u
  out : BoxL (w.heap.size + 2) (rC M' v') u
  rin : RIn u M v
  row : RRow (w.heap.size + 3) u M' v'
  below : Below w.heap.size w u
theorem CpS.keep {w : World} {M : Rm} {v : Rv} {M' : Rm} {v' : Rv} {u u' : World} (h : CpS w M v M' v' u) (hb : Below u.heap.size u u') : CpS w M v M' v' u' := ⟨h.arg.keep hb, h.res.keep hb, h.out.keep hb, h.rin.keep hb, h.row.keep hb, bl_trans h.below hb⟩
/-- One subscriber more is copied. -/
theorem CpS.push {w : World} {M : Rm} {v : Rv} {M' : Rm} {v' : Rv} {u w' : World} {x : Sa} {a' : Option Addr} {c' : Nat} (h : CpS w M v M' v' u) (hx : u.ownsRow (w.heap.size + 3) 145 3 (.slice x.a x.n x.c) x.n (qflat x.s.fl)) (hxs : ∀ p, p ∈ x.s.fl → p.2.2.size ≤ maxLen)
    (hxb : ∀ q, (Value.slice x.a x.n x.c).ownBlock = some q → some q ∉ blkR M') (ho : w'.ownsRow (w.heap.size + 3) 90 7 (.slice a' (M'.s + 1) c') (M'.s + 1) (sflat (M'.xs ++ [x]))) (hg : u.grownBy w' (Value.slice M'.sa M'.s M'.sc).ownBlock)
    (hl : ∀ q, (Value.slice a' (M'.s + 1) c').ownBlock = some q → (Value.slice M'.sa M'.s M'.sc).ownBlock = some q ∨ u.heap.size ≤ q) (hI : RIn w M v) :
    CpS w M v { M' with sa := a', s := M'.s + 1, sc := c', xs := M'.xs ++ [x] } { v' with sb := v'.sb ++ [x.s] } (w'.setCell ⟨w.heap.size + 1 + 1, 4, none⟩ (.slice a' (M'.s + 1) c')) := by
  have ge : ∀ q, (Value.slice M'.sa M'.s M'.sc).ownBlock = some q → w.heap.size + 3 ≤ q := fun q e => (row_lt h.row.sb e).1
  have ne : ∀ N, N < w.heap.size + 3 → (Value.slice M'.sa M'.s M'.sc).ownBlock ≠ some N := fun N hN e => by have := ge N e; omega
  have b1 : Below w.heap.size w w' := h.below.grown hg h.below.size (fun k hk => by have := ge k hk; omega)
  have b2 : Below w.heap.size w (w'.setCell ⟨w.heap.size + 1 + 1, 4, none⟩ (.slice a' (M'.s + 1) c')) := bl_setB b1 _ _ (by omega) _
  have hr := h.row.push hx hxs hxb ho hg hl
  exact ⟨(h.arg.grown hg (ne _ (by omega))).far _ _ (by omega) _, (h.res.grown hg (ne _ (by omega))).far _ _ (by omega) _, (h.out.grown hg (ne _ (by omega))).set 4 (by simp) _, hI.keep b2, hr.grown (grown_setC _ _ _ _) (hr.out (by omega)), b2⟩
end Go.Proofs.YtffpecdjfcgadaaGreatDoor
namespace Go.Proofs.YtffpecdjfcgadaaGreatDoor
open Go.RowKit Pl Il

theorem SRow.keep {B : Nat} {w w' : World} {a : Option Addr} {n c : Nat} {ys : List Sa} (h : SRow B w a n c ys) (hb : Below w.heap.size w w') : SRow B w' a n c ys := ⟨ownsRow_keep h.sb hb, fun x hx => ownsRow_keep (h.fl x hx) hb, h.fls, h.apt⟩
theorem SRow.mono {B B' : Nat} {w : World} {a : Option Addr} {n c : Nat} {ys : List Sa} (h : SRow B w a n c ys) (hb : B' ≤ B) : SRow B' w a n c ys := ⟨rowM h.sb hb, fun x hx => rowM (h.fl x hx) hb, h.fls, h.apt⟩
theorem SRow.set {B : Nat} {w : World} {a : Option Addr} {n c : Nat} {ys : List Sa} (h : SRow B w a n c ys) (N o : Nat) (hN : N < B) (x : Value) : SRow B (w.setCell ⟨N, o, none⟩ x) a n c ys :=
  ⟨rowG h.sb (grown_setC _ _ _ _) (fun q e e' => by injection e with e; have := (row_lt h.sb e').1; omega), fun y hy => rowG (h.fl y hy) (grown_setC _ _ _ _) (fun q e e' => by injection e with e; have := (row_lt (h.fl y hy) e').1; omega), h.fls, h.apt⟩
theorem SRow.blk {B : Nat} {w : World} {a : Option Addr} {n c : Nat} {ys : List Sa} (h : SRow B w a n c ys) : (∀ q, (Value.slice a n c).ownBlock = some q → B ≤ q ∧ q < w.heap.size) ∧ ∀ x, x ∈ ys → ∀ q, (Value.slice x.a x.n x.c).ownBlock = some q → B ≤ q ∧ q < w.heap.size := ⟨fun _ e => row_lt h.sb e, fun x hx _ e => row_lt (h.fl x hx) e⟩
theorem rowSet {B : Nat} {w : World} {t : TypeId} {s : Nat} {v : Value} {n : Nat} {xs : List Value} (h : w.ownsRow B t s v n xs) (N o : Nat) (hN : N < B) (x : Value) : (w.setCell ⟨N, o, none⟩ x).ownsRow B t s v n xs :=
  rowG h (grown_setC _ _ _ _) (fun q e e' => by injection e with e; have := (row_lt h e').1; omega)
/-- Four lists made one behind the other are apart. -/
theorem apt_chain {i s l g : Option Nat} {xs : List (Option Nat)} {K1 K2 K3 : Nat} (hi : ∀ q, i = some q → q < K1) (hs : ∀ q, s = some q → K1 ≤ q ∧ q < K2) (hx : ∀ x, x ∈ xs → ∀ q, x = some q → K1 ≤ q ∧ q < K2) (hl : ∀ q, l = some q → K2 ≤ q ∧ q < K3) (hg : ∀ q, g = some q → K3 ≤ q) (ha : Apt (s :: xs)) (h12 : K1 ≤ K2) (h23 : K2 ≤ K3) : Apt (i :: s :: l :: g :: xs) := by
  unfold Apt at ha
  rw [List.pairwise_cons] at ha
  refine apt_iff.2 ⟨fun b e e' => ?_, fun b e e' => ?_, fun b e e' => ?_, fun x h b e e' => ?_, fun b e e' => ?_, fun b e e' => ?_, ha.1, fun b e e' => ?_, fun x h b e e' => ?_, fun x h b e e' => ?_, ha.2⟩
  · have := hi b e; have := hs b e'; omega
  · have := hi b e; have := hl b e'; omega
  · have := hi b e; have := hg b e'; omega
  · have := hi b e; have := hx x h b e'; omega
  · have := hs b e; have := hl b e'; omega
  · have := hs b e; have := hg b e'; omega
  · have := hl b e; have := hg b e'; omega
  · have := hl b e; have := hx x h b e'; omega
  · have := hg b e; have := hx x h b e'; omega
end Go.Proofs.YtffpecdjfcgadaaGreatDoor
namespace Go.Proofs.YtffpecdjfcgadaaGreatDoor
open Go.RowKit Pl Il

/-- Where they stand, up to the array's end and behind its turn. -/
def spanA (b o s n : Nat) : Value := if s + n ≤ 17 then .slice (some ⟨b, o + s * 3, none⟩) n (17 - s) else .slice (some ⟨b, o + s * 3, none⟩) (17 - s) (17 - s)
def spanB (b o s n : Nat) : Value := if s + n ≤ 17 then .slice none 0 0 else .slice (some ⟨b, o, none⟩) (s + n - 17) 17
theorem arr17 : Tryz.prog.underlying 109 = some (.array (Tryz.prog.arrayLen 109) (Tryz.prog.elem 109)) := by kernel_rfl
theorem arr17len : Tryz.prog.arrayLen 109 = 17 := by kernel_rfl
theorem arr17sz (w : World) : (sizeOf (Tryz.prog.elem 109)).run Tryz.prog w = .ok 3 w := by kernel_rfl
theorem add_at (b o k : Nat) : (⟨b, o, none⟩ : Addr).add k = ⟨b, o + k, none⟩ := Addr.add_lit ..
theorem slice_lh (b o s e : Nat) (u : World) (h1 : s ≤ e) (h2 : e ≤ 17) (h3 : s < 17) :
    (Instr.sliceAt 109 (.pointer (some ⟨b, o, none⟩)) (some (.int .i64 (s : Int))) (some (.int .i64 (e : Int))) none).run Tryz.prog u = .ok (.slice (some ⟨b, o + s * 3, none⟩) (e - s) (17 - s)) u := by
  rw [run_sliceAt_array_lh u 109 _ arr17 .i64 .i64 _ _ (by omega) (by omega) (by rw [arr17len]; omega), arr17sz, Result.andThen_ok, arr17len]
  simp only [slicedAt, Int.toNat_natCast, add_at]
  rw [if_neg (by omega)]
theorem slice_h (b o e : Nat) (u : World) (h2 : e ≤ 17) :
    (Instr.sliceAt 109 (.pointer (some ⟨b, o, none⟩)) none (some (.int .i64 (e : Int))) none).run Tryz.prog u = .ok (.slice (some ⟨b, o, none⟩) e 17) u := by
  rw [run_sliceAt_array_h u 109 _ arr17 .i64 _ (by omega) (by rw [arr17len]; omega), arr17sz, Result.andThen_ok, arr17len]
  simp [slicedAt, add_at]
theorem slice_l (b o s : Nat) (u : World) (h3 : s < 17) :
    (Instr.sliceAt 109 (.pointer (some ⟨b, o, none⟩)) (some (.int .i64 (s : Int))) none none).run Tryz.prog u = .ok (.slice (some ⟨b, o + s * 3, none⟩) (17 - s) (17 - s)) u := by
  rw [run_sliceAt_array_l u 109 _ arr17 .i64 _ (by omega) (by rw [arr17len]; omega), arr17sz, Result.andThen_ok, arr17len]
  simp only [slicedAt, Int.toNat_natCast, add_at]
  rw [if_neg (by omega)]
set_option maxRecDepth 100000 in
set_option maxHeartbeats 4000000 in
theorem span_any (b o f n : Nat) (w : World) (hf : f ≤ 2000000000) (hn : n ≤ 17) :
    Calls Tryz.prog 98 #[.pointer (some ⟨b, o, none⟩), .int .i64 (f : Int), .int .i64 ((f + n : Nat) : Int)] w fun e w' => e = .returned (.tuple #[spanA b o (f % 17) n, spanB b o (f % 17) n]) ∧ Below w.heap.size w w' := by
  have hs : f % 17 < 17 := Nat.mod_lt _ (by omega)
  have hr : (f : Int) % 17 = ((f % 17 : Nat) : Int) := by omega
  obtain ⟨s, hS⟩ : ∃ s, f % 17 = s := ⟨_, rfl⟩
  rw [hS] at hs hr ⊢
  clear hS
  have he : (s : Int) + ((f : Int) + (n : Int)) - (f : Int) = ((s + n : Nat) : Int) := by omega
  by_cases h : s + n ≤ 17
  · have HA := hidOf (show spanA b o s n = .slice (some ⟨b, o + s * 3, none⟩) n (17 - s) from if_pos h)
    have HB := hidOf (show spanB b o s n = .slice none 0 0 from if_pos h)
    have hi : (s : Int) + (n : Int) ≤ 17 := by omega
    have hsl := slice_lh b o s (s + n) w (by omega) h hs
    rw [Nat.add_sub_cancel_left, show ((s + n : Nat) : Int) = (s : Int) + (n : Int) by omega] at hsl
    rw [HA.out, HB.out]
    clear h
    go_enter Tryz.func98, Tryz.ntmps98
    go_wp2_with fail
    go_ret2
    exact ⟨rfl, Below.refl _ _⟩
  · have HA := hidOf (show spanA b o s n = .slice (some ⟨b, o + s * 3, none⟩) (17 - s) (17 - s) from if_neg h)
    have HB := hidOf (show spanB b o s n = .slice (some ⟨b, o, none⟩) (s + n - 17) 17 from if_neg h)
    have hi : ¬ (s : Int) + (n : Int) ≤ 17 := by omega
    have hsl := fun u => slice_l b o s u hs
    have hsh := fun u => slice_h b o (s + n - 17) u (by omega)
    have hw : IntKind.i64.wrap ((s + n - 17 : Nat) : Int) = ((s + n - 17 : Nat) : Int) := by rw [IntKind.wrap_i64]; omega
    have hw2 : (s : Int) + (n : Int) - 17 = ((s + n - 17 : Nat) : Int) := by omega
    rw [HA.out, HB.out]
    clear h
    have hB : Below w.heap.size w w := Below.refl _ _
    go_enter Tryz.func98, Tryz.ntmps98
    go_upto_region 5 with fail
    refine wp_region_noPanic ?_
    refine wp_region_held_drew (S := fun w' => Below w.heap.size w w') (by kernel_rfl) hB.drew (fun hHeld => ?_)
    refine wpAnyH_take (i := 0) (v := ?_) rfl (by kernel_rfl) (by kernel_rfl) (by kernel_rfl) (fun _ _ _ h => h) (Or.inl ⟨by rfl, ?_⟩) (by assumption) ?_
    case refine_2 => (intro w hSw; (try dsimp only at hSw); go_simp; try with_reducible rfl)
    simp only [Act.put, List.getElem_toArray, List.getElem_cons_zero, List.setIfInBounds_toArray, List.set_cons_zero, List.set_cons_succ]
    refine wpAnyH_take (i := 1) (v := ?_) rfl (by kernel_rfl) (by kernel_rfl) (by kernel_rfl) (fun _ _ _ h => h) (Or.inl ⟨by rfl, ?_⟩) (by assumption) ?_
    case refine_2 => (intro w hSw; (try dsimp only at hSw); go_simp; try with_reducible rfl)
    simp only [Act.put, zGA, zG0, zGC, zSA, zS0, zSC]
    refine wpAnyH_take (i := 2) (v := ?_) rfl (by kernel_rfl) (by kernel_rfl) (by kernel_rfl) (fun _ _ _ h => h) (Or.inl ⟨by rfl, ?_⟩) (by assumption) ?_
    case refine_2 => (intro w hSw; (try dsimp only at hSw); go_simp; try with_reducible rfl)
    simp only [Act.put, zGA, zG0, zGC, zSA, zS0, zSC]
    refine wpAnyH_take (i := 3) (v := ?_) rfl (by kernel_rfl) (by kernel_rfl) (by kernel_rfl) (fun _ _ _ h => h) (Or.inl ⟨by rfl, ?_⟩) (by assumption) ?_
    case refine_2 => (intro w hSw; (try dsimp only at hSw); go_simp; try with_reducible rfl)
    simp only [Act.put, zGA, zG0, zGC, zSA, zS0, zSC]
    refine wpAnyH_take (i := 4) (v := ?_) rfl (by kernel_rfl) (by kernel_rfl) (by kernel_rfl) (fun _ _ _ h => h) (Or.inl ⟨by rfl, ?_⟩) (by assumption) ?_
    case refine_2 => (intro w hSw; (try dsimp only at hSw); go_simp; try with_reducible rfl)
    simp only [Act.put, zGA, zG0, zGC, zSA, zS0, zSC]
    refine wpAnyH_take (i := 5) (v := ?_) rfl (by kernel_rfl) (by kernel_rfl) (by kernel_rfl) (fun _ _ _ h => h) (Or.inl ⟨by rfl, ?_⟩) (by assumption) ?_
    case refine_2 => (intro w hSw; (try dsimp only at hSw); go_simp; try with_reducible rfl)
    simp only [Act.put, zGA, zG0, zGC, zSA, zS0, zSC]
    refine wpAnyH_take (i := 6) (v := ?_) rfl (by kernel_rfl) (by kernel_rfl) (by kernel_rfl) (fun _ _ _ h => h) (Or.inl ⟨by rfl, ?_⟩) (by assumption) ?_
    case refine_2 => (intro w hSw; (try dsimp only at hSw); go_simp; try with_reducible rfl)
    simp only [Act.put, zGA, zG0, zGC, zSA, zS0, zSC]
    refine wpAnyH_take (i := 7) (v := ?_) rfl (by kernel_rfl) (by kernel_rfl) (by kernel_rfl) (fun _ _ _ h => h) (Or.inl ⟨by rfl, ?_⟩) (by assumption) ?_
    case refine_2 => (intro w hSw; (try dsimp only at hSw); go_simp; try with_reducible rfl)
    simp only [Act.put, zGA, zG0, zGC, zSA, zS0, zSC]
    refine wpAnyH_take (i := 8) (v := ?_) rfl (by kernel_rfl) (by kernel_rfl) (by kernel_rfl) (fun _ _ _ h => h) (Or.inl ⟨by rfl, ?_⟩) (by assumption) ?_
    case refine_2 => (intro w hSw; (try dsimp only at hSw); go_simp; try with_reducible rfl)
    simp only [Act.put, zGA, zG0, zGC, zSA, zS0, zSC]
    refine wpAnyH_take (i := 9) (v := ?_) rfl (by kernel_rfl) (by kernel_rfl) (by kernel_rfl) (fun _ _ _ h => h) (Or.inl ⟨by rfl, ?_⟩) (by assumption) ?_
    case refine_2 => (intro w hSw; (try dsimp only at hSw); go_simp; try with_reducible rfl)
    simp only [Act.put, zGA, zG0, zGC, zSA, zS0, zSC]
    refine wpAnyH_take (i := 10) (v := ?_) rfl (by kernel_rfl) (by kernel_rfl) (by kernel_rfl) (fun _ _ _ h => h) (Or.inl ⟨by rfl, ?_⟩) (by assumption) ?_
    case refine_2 => (intro w hSw; (try dsimp only at hSw); go_simp; try with_reducible rfl)
    simp only [Act.put, zGA, zG0, zGC, zSA, zS0, zSC]
    refine wpAnyH_take (i := 11) (v := ?_) rfl (by kernel_rfl) (by kernel_rfl) (by kernel_rfl) (fun _ _ _ h => h) (Or.inl ⟨by rfl, ?_⟩) (by assumption) ?_
    case refine_2 => (intro w hSw; (try dsimp only at hSw); go_simp; try with_reducible rfl)
    simp only [Act.put, zGA, zG0, zGC, zSA, zS0, zSC]
    refine wpAnyH_take (i := 12) (v := ?_) rfl (by kernel_rfl) (by kernel_rfl) (by kernel_rfl) (fun _ _ _ h => h) (Or.inl ⟨by rfl, ?_⟩) (by assumption) ?_
    case refine_2 => (intro w hSw; (try dsimp only at hSw); go_simp; try with_reducible rfl)
    simp only [Act.put, zGA, zG0, zGC, zSA, zS0, zSC]
    refine wpAnyH_done (by kernel_rfl) ?_ _
    refine NoPanic.normal ?_
    go_wp2
    go_ret2
    exact ⟨rfl, hHeld⟩
end Go.Proofs.YtffpecdjfcgadaaGreatDoor
namespace Go.Proofs.YtffpecdjfcgadaaGreatDoor
open Go.RowKit Pl Il

theorem run_copyG {P : Program} (w : World) (dT sT ty elem : TypeId) (sz g o dLen dCap : Nat) (a : Addr) (sLen sCap : Nat) (cur : Array Value) (t : TypeId) (cs : List Value)
    (hu : P.underlying dT = some (.slice elem)) (hs : (P.info? elem).map (·.size) = some sz)
    (hg : w.heap[g]? = some (.cells cur t (0, 0))) (hn : cs.length = Nat.min sLen dLen * sz)
    (hsrc : ∀ j v, cs[j]? = some v → w.cell? (a.add j) = some v) (hfit : o + cs.length ≤ cur.size) (h1 : ∀ v ∈ cs, v.oneCell' = true) :
    (Builtin.copy_ #[dT, sT] ty #[.slice (some ⟨g, o, none⟩) dLen dCap, .slice (some a) sLen sCap]).run P w =
      .ok (goInt (Nat.min sLen dLen)) (w.setRow g (cur.toList.take o ++ cs ++ cur.toList.drop (o + cs.length)).toArray) := by
  have hl := run_loadCells_list (P := P) w a cs hsrc
  have hst := run_storeCells_at P g o t cs 0 cur w hg (by simpa using hfit) h1
  cases hq : P.info? elem with
  | none => simp [hq] at hs
  | some i =>
    have hi : i.size = sz := by simpa [hq] using hs
    simp [Builtin.copy_, run_underlying hu, Builtin.lenOf, Builtin.firstCells, sizeOf, typeInfo, hq, hi, ← hn, hl, hst]
theorem infoMz : (Tryz.prog.info? 94).map (·.size) = some 3 := by kernel_rfl
/-- Nothing to copy to. -/
theorem copy_tonil (w : World) (a : Option Addr) (n c : Nat) : (Builtin.copy_ #[50, 50] 3 #[.slice none 0 0, .slice a n c]).run Tryz.prog w = .ok (.int .i64 0) w := by
  cases hq : Tryz.prog.info? 94 with
  | none => have := infoMz; rw [hq] at this; cases this
  | some i =>
    cases a <;> simp [Builtin.copy_, run_underlying Tryz.underlying50, Builtin.lenOf, Builtin.firstCells, sizeOf, typeInfo, hq, loadCells, loadCellsFrom, goInt]
/-- A block's cells from d on were written over, k messages; nothing else has turned. -/
structure CpyP (b d k : Nat) (ts : List Tm) (w w' : World) : Prop where
  blk : ∀ cur t, w.heap[b]? = some (.cells cur t (0, 0)) → ∃ cur' : Array Value, w'.heap[b]? = some (.cells cur' t (0, 0)) ∧ cur'.size = cur.size
  grown : w.grownBy w' (some b)
  cells : ∀ j, w'.cell? ⟨b, j, none⟩ = if d ≤ j ∧ j < d + k * 3 then (qflat ts)[j - d]? else w.cell? ⟨b, j, none⟩
theorem grown_setRow (w : World) (g : Nat) (cs : Array Value) : w.grownBy (w.setRow g cs) (some g) := ⟨rfl, rfl, rfl, by simp, fun k _ hk => setRow_other _ _ _ _ (by rintro rfl; exact hk rfl)⟩
theorem seg_at {l cs : List Value} {d j : Nat} (hd : d + cs.length ≤ l.length) : (l.take d ++ cs ++ l.drop (d + cs.length))[j]? = if d ≤ j ∧ j < d + cs.length then cs[j - d]? else l[j]? := by
  by_cases h1 : j < d
  · rw [if_neg (by omega), List.append_assoc, List.getElem?_append_left (by simp; omega), List.getElem?_take_of_lt h1]
  · by_cases h2 : j < d + cs.length
    · rw [if_pos (by omega), List.append_assoc, List.getElem?_append_right (by simp; omega), List.getElem?_append_left (by simp; omega)]
      simp only [List.length_take]
      rw [Nat.min_eq_left (by omega)]
    · rw [if_neg (by omega), List.getElem?_append_right (by simp; omega)]
      simp only [List.length_append, List.length_take]
      rw [Nat.min_eq_left (by omega), List.getElem?_drop]
      congr 1
      omega
theorem copy_msgs (w : World) (b d dLen dCap : Nat) (a : Option Addr) (n c : Nat) (ts : List Tm) (cur : Array Value) (t : TypeId) (hg : w.heap[b]? = some (.cells cur t (0, 0))) (hI : TmAt w a n ts) (hfit : d + dLen * 3 ≤ cur.size) :
    ∃ w', (Builtin.copy_ #[50, 50] 3 #[.slice (some ⟨b, d, none⟩) dLen dCap, .slice a n c]).run Tryz.prog w = .ok (.int .i64 ((Nat.min n dLen : Nat) : Int)) w' ∧ CpyP b d (Nat.min n dLen) ts w w' := by
  cases a with
  | none =>
    obtain rfl : n = 0 := by
      rcases hI.row with h | ⟨b', off', e, _⟩
      · exact h
      · cases e
    refine ⟨w, ?_, ⟨fun cur t h => ⟨cur, h, rfl⟩, ⟨rfl, rfl, rfl, Nat.le_refl _, fun _ _ _ => rfl⟩, fun j => by rw [if_neg (by simp)]⟩⟩
    cases hq : Tryz.prog.info? 94 with
    | none => have := infoMz; rw [hq] at this; cases this
    | some i => simp [Builtin.copy_, run_underlying Tryz.underlying50, Builtin.lenOf, Builtin.firstCells, sizeOf, typeInfo, hq, storeCells, goInt]
  | some ad =>
    have hlen : ((qflat ts).take (Nat.min n dLen * 3)).length = Nat.min n dLen * 3 := by
      rw [List.length_take, length_qflat, hI.len]
      have : Nat.min n dLen ≤ n := Nat.min_le_left _ _
      omega
    have hmd : Nat.min n dLen ≤ dLen := Nat.min_le_right _ _
    have hr := run_copyG (P := Tryz.prog) w 50 50 3 94 3 b d dLen dCap ad n c cur t ((qflat ts).take (Nat.min n dLen * 3)) Tryz.underlying50 infoMz hg hlen
      (fun j v hj => by
        rcases hI.src with h0 | ⟨b', off', e, hc⟩
        · subst h0
          simp at hj
        · cases e
          rw [Addr.add_lit]
          refine hc j v ?_
          rw [← hj, List.getElem?_take_of_lt]
          have := (List.getElem?_eq_some_iff.1 hj).1
          rw [hlen] at this
          exact this) (by rw [hlen]; omega) (fun v hv => one_qflat ts v (List.mem_of_mem_take hv))
    refine ⟨_, hr, ⟨fun cur2 t2 h2 => ?_, grown_setRow _ _ _, fun j => ?_⟩⟩
    · rw [hg] at h2
      cases h2
      refine ⟨_, setRow_heap w b cur _ t _ hg, ?_⟩
      simp only [List.size_toArray, List.length_append, List.length_take, List.length_drop, Array.length_toList, length_qflat, hI.len]
      have : Nat.min n dLen ≤ n := Nat.min_le_left _ _
      omega
    · rw [cell_setRow_same w b j cur _ t _ hg]
      have h := seg_at (l := cur.toList) (cs := (qflat ts).take (Nat.min n dLen * 3)) (d := d) (j := j) (by rw [hlen, Array.length_toList]; omega)
      rw [List.getElem?_toArray, h, hlen]
      by_cases hj : d ≤ j ∧ j < d + Nat.min n dLen * 3
      · rw [if_pos hj, if_pos hj, List.getElem?_take_of_lt (by omega)]
      · rw [if_neg hj, if_neg hj]
        simp [World.cell?, hg]
end Go.Proofs.YtffpecdjfcgadaaGreatDoor
