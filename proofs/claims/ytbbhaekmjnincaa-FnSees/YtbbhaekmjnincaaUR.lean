/-
  What a call's three answers are once they are stored; the bytes of a code as a function.
-/
import Derived.Test.YtbbhaekmjnincaaCCe
import Derived.Test.YtbbhaekmjnincaaFA
import Derived.Deep.RegionHeld3
import Derived.Deep.CutRange
namespace Go.Proofs.Ytbbhaekmjnincaa
open Go.RowKit Pl Il Dr

/-- What a call's three answers are once they are stored. -/
structure UrR (u : World) (y : Ct) (l : List Int) (R : Nat) (A6 : Na) (al : Option Addr) (ml : Nat) (wx : World) : Prop where
  box : CBox R A6 y wx
  own : COwn u.heap.size wx A6 y
  told : Il.OwnAt u.heap.size wx al ml l
  apart : Apart3 A6.a A6.n A6.a' A6.n' al ml
  ge : u.heap.size ≤ R
  n1 : A6.n = 0 ∨ ∀ b off, A6.a = some ⟨b, off, none⟩ → b ≠ R
  n2 : A6.n' = 0 ∨ ∀ b off, A6.a' = some ⟨b, off, none⟩ → b ≠ R
  n3 : ml = 0 ∨ ∀ b off, al = some ⟨b, off, none⟩ → b ≠ R
  below : Below u.heap.size u wx
section
variable {u c v : World} {y : Ct} {l : List Int} {R : Nat} {A6 : Na} {al : Option Addr} {ml : Nat}
theorem UrR.last (hu : Below u.heap.size u c) (h : COwn c.heap.size v A6 y) (ht : Il.OwnAt c.heap.size v al ml l) (hap : Apart3 A6.a A6.n A6.a' A6.n' al ml) (hb : Below c.heap.size c v) (t : TypeId) : UrR u y l v.heap.size A6 al ml (v.alloc (.cells #[.int .i64 y.kd, .int .i64 y.nu, .string y.tx, .int .i64 y.ve, .bool y.cl, .slice A6.a A6.n A6.c, .slice A6.a' A6.n' A6.c'] t)) := by
  have b1 : Below v.heap.size v (v.alloc (.cells #[.int .i64 y.kd, .int .i64 y.nu, .string y.tx, .int .i64 y.ve, .bool y.cl, .slice A6.a A6.n A6.c, .slice A6.a' A6.n' A6.c'] t)) := bl_alloc (Below.refl _ _) _
  have h1 := h.spans
  have h3 := own_span ht
  exact ⟨CBox.new v A6 y t, (h.keep b1).mono hu.size, (ht.keep b1).mono hu.size, hap, Nat.le_trans hu.size hb.size, h1.1.imp id fun g b off e => by have := g b off e; omega, h1.2.imp id fun g b off e => by have := g b off e; omega, h3.imp id fun g b off e => by have := g b off e; omega, bl_trans (bl_trans hu hb) b1⟩
theorem UrR.first (hu : Below u.heap.size u c) (h : COwn c.heap.size v A6 y) (ht : Il.OwnAt c.heap.size v al ml l) (hap : Apart3 A6.a A6.n A6.a' A6.n' al ml) (hb : Below c.heap.size c v) (hR : u.heap.size ≤ R) (hc : R < c.heap.size) (z : CBox R Na.zero Ct.zero v) : UrR u y l R A6 al ml (((((((v.setCell ⟨R, 0, none⟩ (.int .i64 y.kd)).setCell ⟨R, 1, none⟩ (.int .i64 y.nu)).setCell ⟨R, 2, none⟩ (.string y.tx)).setCell ⟨R, 3, none⟩ (.int .i64 y.ve)).setCell ⟨R, 4, none⟩ (.bool y.cl)).setCell ⟨R, 5, none⟩ (.slice A6.a A6.n A6.c)).setCell ⟨R, 6, none⟩ (.slice A6.a' A6.n' A6.c')) := by
  have h1 := h.spans
  have h3 := own_span ht
  refine ⟨?_, (h.farA R hc _ _ _ _ _ _ _).mono hu.size, ((((((((ht.far R 0 hc _).far R 1 hc _).far R 2 hc _).far R 3 hc _).far R 4 hc _).far R 5 hc _).far R 6 hc _).mono hu.size), hap, hR, h1.1.imp id fun g b off e => by have := g b off e; omega, h1.2.imp id fun g b off e => by have := g b off e; omega, h3.imp id fun g b off e => by have := g b off e; omega, bl_sC (bl_trans hu hb) R hR _ _ _ _ _ _ _⟩
  exact ((((((((z.set0 (v := y.kd)).set1 (v := y.nu)).set2 (v := y.tx)).set3 (v := y.ve)).set4 (v := y.cl)).set5 (a := A6.a) (n := A6.n) (c := A6.c)).set6 (a := A6.a') (n := A6.n') (c := A6.c')).lists y.ln y.gs)
end

theorem fn_ofU {m : Nat} {R : Nat → Int → Prop} (h : ∀ i, i < m → ∃ x, R i x) : ∃ f : Nat → Int, ∀ i, i < m → R i (f i) := by
  classical
  refine ⟨fun i => if hi : i < m then Classical.choose (h i hi) else 0, fun i hi => ?_⟩
  simp only [hi, dif_pos]
  exact Classical.choose_spec (h i hi)
/-- A code's bytes, the same wherever the code lies as it lay. -/
theorem at_fn (c : Nat) (a : Option Addr) (len cap : Nat) (w : World) (hB : Bytes c w a len cap) : ∃ f : Nat → Int, (∀ i : Nat, 0 ≤ f i ∧ f i ≤ 255) ∧
    ∀ i : Nat, i ≤ 1000 → ∀ u, Below w.heap.size w u → Calls Try.prog 6 #[.slice a len cap, .int .i64 (i : Int)] u fun e u' => e = .returned (.int .i64 (f i)) ∧ u' = u := by
  obtain ⟨hl, _, rfl | ⟨b, off, rfl, hbs, _, hc⟩⟩ := hB
  · refine ⟨fun i => (i : Int) * 7 % 256, fun i => ⟨by show 0 ≤ (i : Int) * 7 % 256; omega, by show (i : Int) * 7 % 256 ≤ 255; omega⟩, fun i hi u _ => ?_⟩
    have h0 : ¬ (i : Int) < 0 := by omega
    go_enter Try.func6, Try.ntmps6
    go_wp2
    go_ret
    exact ⟨rfl, rfl⟩
  · obtain ⟨f, hf⟩ := fn_ofU (R := fun i x => w.cell? ⟨b, off + i, none⟩ = some (.int .u8 x) ∧ 0 ≤ x ∧ x ≤ 255) hc
    refine ⟨fun i => if i < len then f i else ((i : Int) * 7 + (len : Int)) % 256, fun i => ?_, fun i hi u hb => ?_⟩
    · by_cases h : i < len
      · simp only [h, if_true]; exact (hf i h).2
      · simp only [h, if_false]; omega
    · by_cases h0 : i < len
      · obtain ⟨hn, n0, n1⟩ := hf i h0
        have hn' : u.cell? ⟨b, off + i, none⟩ = some (.int .u8 (f i)) := by rw [hb.cell (p := ⟨b, off + i, none⟩) hbs]; exact hn
        have hi0 : (i : Int) < (len : Int) := by omega
        have hi1 : (0 : Int) ≤ (i : Int) := by omega
        simp only [h0, if_true]
        generalize f i = n at hn' n0 n1 ⊢
        clear hc hf hn hb
        go_enter Try.func6, Try.ntmps6
        go_wp2
        go_ret
        exact ⟨rint (by first | rfl | (simp [IntKind.wrap, IntKind.signed, IntKind.bits]; omega) | omega), rfl⟩
      · have hi0 : ¬ (i : Int) < (len : Int) := by omega
        simp only [h0, if_false]
        clear hc hf hb
        go_enter Try.func6, Try.ntmps6
        go_wp2
        go_ret
        exact ⟨rfl, rfl⟩
end Go.Proofs.Ytbbhaekmjnincaa
