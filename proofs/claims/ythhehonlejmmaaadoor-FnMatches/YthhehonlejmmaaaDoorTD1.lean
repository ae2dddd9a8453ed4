/-
  Walks of the specification's draws: names and patterns.
-/
import Derived.Test.YthhehonlejmmaaaDoorE4
import Derived.Test.YthhehonlejmmaaaDoorKB
import Derived.Test.YthhehonlejmmaaaDoorTN9
namespace Go.Proofs.YthhehonlejmmaaaDoor
open Go.RowKit Pl Il Dr Tn

def namesC : Array Value := #[.string ⟨#[97]⟩, .string ⟨#[97, 46, 98]⟩, .string ⟨#[97, 46, 98, 46, 99]⟩, .string ⟨#[98]⟩, .string ⟨#[98, 46, 99]⟩, .string ⟨#[120, 49]⟩, .string ⟨#[110, 101, 119, 115]⟩, .string ⟨#[110, 101, 119, 115, 46, 101, 117]⟩, .string ⟨#[97, 46, 99]⟩]
theorem names_any (w : World) : Calls Tryd.prog 17 #[] w fun e w' => e = .returned (.slice (some ⟨w.heap.size, 0, none⟩) 9 9) ∧ w' = w.alloc (.cells namesC 9) := by
  go_enter Tryd.func17, Tryd.ntmps17
  go_wp2
  go_ret
  exact ⟨rfl, rfl⟩
/-- A text is drawn. -/
def StrD (c : Nat) (a : Option Addr) (len cap : Nat) (w : World) (e : Ending) (w' : World) : Prop := ∃ x : ByteArray, e = .returned (.string x) ∧ x.size ≤ 40 ∧ Drawn c a len cap w w'
theorem pick_new (a : Option Addr) (len cap : Nat) (c n : Nat) (cs : Array Value) (w : World) (hC : Cur c a len cap w) (h0 : 0 < n) (h1 : n ≤ 256) (hcs : strsB cs n = true) :
    Calls Tryd.prog 16 #[.pointer (some ⟨c, 0, none⟩), .slice (some ⟨w.heap.size, 0, none⟩) n n] (w.alloc (.cells cs 9)) (StrD c a len cap w) := by
  have hlt := hC.lt
  refine (pick_any a len cap c w.heap.size n (w.alloc (.cells cs 9)) (hC.alloc _) (by simp) (by omega) h0 h1 (row_strs w cs 9 n hcs)).mono ?_
  rintro e w' ⟨x, rfl, hx, hd⟩
  exact ⟨x, rfl, hx, ((Drawn.start hC).alloc _).trans hd⟩
theorem l11Pattern_any (a : Option Addr) (len cap : Nat) (c : Nat) (w : World) (hC : Cur c a len cap w) :
    Calls Tryd.prog 19 #[.pointer (some ⟨c, 0, none⟩)] w (StrD c a len cap w) := by
  have HO := hidT (once_any a len cap c 3 w hC (by omega) (by omega))
  go_enter Tryd.func19, Tryd.ntmps19
  go_wp2_with fail
  refine HO.out.mono ?_
  rintro e w1 ⟨x, rfl, hd1⟩
  have HD1 := hidT hd1
  cases x
  · clear hd1 HO
    go_wp2_with fail
    refine (pick_new a len cap c 15 _ w1 HD1.out.cur (by omega) (by omega) (by decide)).mono ?_
    rintro e w2 ⟨y, rfl, hy, hd2⟩
    go_wp2_with fail
    go_ret
    exact ⟨y, rfl, hy, HD1.out.trans hd2⟩
  · have HN := hidT (names_any w1)
    have HP := hidT (pick_new a len cap c 9 namesC w1 HD1.out.cur (by omega) (by omega) (by decide))
    clear hd1 HO
    go_wp2_with fail
    refine HN.out.mono ?_
    rintro e w2 ⟨rfl, hw2⟩
    rw [← hw2] at HP
    clear hw2
    go_wp2_with fail
    refine HP.out.mono ?_
    rintro e w3 ⟨y, rfl, hy, hd2⟩
    go_wp2_with fail
    go_ret
    exact ⟨y, rfl, hy, HD1.out.trans hd2⟩
def DrawP (w : World) (e : Ending) (w' : World) : Prop := ∃ x y : ByteArray, e = .returned (.tuple #[.string x, .string y]) ∧ x.size ≤ 40 ∧ y.size ≤ 40 ∧ Below w.heap.size w w'
set_option maxHeartbeats 2000000 in
theorem drawMatches_any (a : Option Addr) (len cap : Nat) (w : World) (hB : Bytes w.heap.size w a len cap) :
    Calls Tryd.prog 8 #[.slice a len cap] w (DrawP w) := by
  have HNw := hidT (new_any a len cap w hB)
  have hle := Nat.le_refl w.heap.size
  clear hB
  go_enter Tryd.func8, Tryd.ntmps8
  go_wp2_with fail
  refine HNw.out.mono ?_
  rintro e w1 ⟨rfl, hC1, hB1⟩
  have HN := hidT (names_any w1)
  have HP := hidT (pick_new a len cap w.heap.size 9 namesC w1 hC1 (by omega) (by omega) (by decide))
  have HC1 := hidT hC1
  have HB1 := hidT hB1
  have hs1 := hB1.size
  clear hC1 hB1 HNw
  generalize hc : w.heap.size = c at *
  have HCc := hidT hc
  clear hc
  go_wp2_with fail
  refine HN.out.mono ?_
  rintro e w2 ⟨rfl, hw2⟩
  rw [← hw2] at HP
  clear hw2
  go_wp2_with fail
  refine HP.out.mono ?_
  rintro e w3 ⟨x, rfl, hx, hd3⟩
  have HD3 := hidT hd3
  have HO := hidT (once_any a len cap c 9 w3 hd3.cur (by omega) (by omega))
  clear hd3 HP HN
  go_wp2_with fail
  refine HO.out.mono ?_
  rintro e w4 ⟨q, rfl, hd4⟩
  have HD4 := hidT (HD3.out.trans hd4)
  have HPt := hidT (l11Pattern_any a len cap c w4 hd4.cur)
  clear hd4 HO
  cases q
  · go_wp2_with fail
    refine HPt.out.mono ?_
    rintro e w5 ⟨y, rfl, hy, hd5⟩
    go_wp2_with fail
    go_ret2
    exact ⟨x, y, rfl, hx, hy, by rw [HCc.out]; exact HB1.out.trans ((HD4.out.trans hd5).ex.below (Nat.le_refl _) hs1)⟩
  · go_wp2_with fail
    refine HPt.out.mono ?_
    rintro e w5 ⟨y, rfl, hy, hd5⟩
    have HP2 := hidT (l11Pattern_any a len cap c w5 hd5.cur)
    have HD5 := hidT (HD4.out.trans hd5)
    clear hd5 HPt
    go_wp2_with fail
    refine HP2.out.mono ?_
    rintro e w6 ⟨z, rfl, hz, hd6⟩
    go_wp2_with fail
    go_ret2
    exact ⟨y, z, rfl, hy, hz, by rw [HCc.out]; exact HB1.out.trans ((HD5.out.trans hd6).ex.below (Nat.le_refl _) hs1)⟩
end Go.Proofs.YthhehonlejmmaaaDoor
