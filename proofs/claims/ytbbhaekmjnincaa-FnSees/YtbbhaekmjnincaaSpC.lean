/-
  Walks of the specification's cells: is one right? A copy of one.
-/
import Derived.Test.YtbbhaekmjnincaaS6c
import Derived.Test.YtbbhaekmjnincaaCM7
import Derived.Test.YtbbhaekmjnincaaCCe
import Derived.Test.YtbbhaekmjnincaaZFnSees23
namespace Go.Proofs.Ytbbhaekmjnincaa
open Go.RowKit Pl Il

theorem specCellOk_any (A : Na) (x : Ct) (w : World) (hI : CIn w A x) (hn : A.n ≤ 2097152) (hn' : A.n' ≤ 2097152) (hok : A.ok) :
    Calls Try.prog 11 #[.agg #[.int .i64 x.kd, .int .i64 x.nu, .string x.tx, .int .i64 x.ve, .bool x.cl, .slice A.a A.n A.c, .slice A.a' A.n' A.c']] w fun e w' => e = .returned (.bool (okC x)) ∧ Below w.heap.size w w' := by
  generalize hW0 : w.alloc (.cells #[.int .i64 x.kd, .int .i64 x.nu, .string x.tx, .int .i64 x.ve, .bool x.cl, .slice A.a A.n A.c, .slice A.a' A.n' A.c'] 29) = W0
  have B0 : Below w.heap.size w W0 := by subst hW0; exact bl_alloc (Below.refl _ _) _
  have x0 : CBox w.heap.size A x W0 := by subst hW0; exact CBox.new w A x _
  have HI0 := hidOf (hI.keep B0)
  have HL := hidOf hI.ints.len
  have htx := hI.tx
  obtain ⟨_, p0, p1, p2, p3, p4, p5, p6, _⟩ := id x0
  have X0 := hidOf x0
  clear hI x0
  have hun : (undef : Value) = .tuple #[] := rfl
  go_enter Try.func11, Try.ntmps11
  go_wp2_with fail
  refine (specMsgOk_any x.kd x.nu x.tx _ htx).mono ?_
  rintro e w1 ⟨rfl, hb1⟩
  have X0 := hidOf (X0.out.keep hb1)
  have HI0 := hidOf (HI0.out.keep hb1)
  have B1 := bl_trans B0 hb1
  clear B0 hb1 hW0 p0 p1 p2 p3 p4 p5 p6
  obtain ⟨_, p0, p1, p2, p3, p4, p5, p6, _⟩ := X0.out
  cases h0 : okB x.kd x.nu x.tx
  · go_wp2
    go_ret
    exact ⟨rbool (by simp [okC, h0]), B1⟩
  · go_wp2_with fail
    refine (inCnt_any x.ve _).mono ?_
    rintro e w2 ⟨rfl, rfl⟩
    cases h1 : cnt x.ve
    · go_wp2
      go_ret
      exact ⟨rbool (by simp [okC, h1]), B1⟩
    · go_wp2_with fail
      refine (l6Waits_any A.a A.n A.c x.ln A.a' A.n' A.c' x.gs _ HI0.out.ints HI0.out.grs hn hn' hok.1 hok.2).mono ?_
      rintro e w3 ⟨rfl, hb3⟩
      have B3 := bl_trans B1 hb3
      clear p0 p1 p2 p3 p4 p5 p6 B1
      obtain ⟨_, p0, p1, p2, p3, p4, p5, p6, _⟩ := X0.out.keep hb3
      clear X0 HI0 hb3
      cases h2 : waitL x.ln x.gs
      · go_wp2
        go_ret
        exact ⟨rbool (by simp [okC, h2]), B3⟩
      · obtain ⟨b, hb⟩ : ∃ b, b = x.cl := ⟨_, rfl⟩
        rw [← hb] at p4
        have HCl := hidOf hb
        clear hb
        cases b
        · go_wp2
          go_ret
          exact ⟨rbool (by simp [okC, h0, h1, h2, ← HCl.out]), B3⟩
        · by_cases h4 : (0 : Int) < (A.n : Int)
          · go_wp2
            go_ret
            exact ⟨rbool (by have := HL.out; first | (simp [okC, ← HCl.out, HL.out]; done) | (simp [okC, ← HCl.out, HL.out]; omega)), B3⟩
          · go_wp2
            go_ret
            exact ⟨rbool (by have := HL.out; first | (simp [okC, h0, h1, h2, ← HCl.out, HL.out]; done) | (simp [okC, h0, h1, h2, ← HCl.out, HL.out]; omega)), B3⟩
end Go.Proofs.Ytbbhaekmjnincaa
