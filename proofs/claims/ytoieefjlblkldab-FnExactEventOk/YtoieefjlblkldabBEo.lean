/-
  The program's events: is one right?
-/
import Derived.Test.YtoieefjlblkldabBE2
namespace Go.Proofs.Ytoieefjlblkldab
open Go.RowKit Go.Maps Pl Il

theorem implEventOk_any (A : Na) (x : Et) (w : World) (hI : EIn w A x) (hn : A.n ≤ 2097152) (hn' : A.n' ≤ 2097152) (hw : EWf x) :
    Calls Try.prog 33 #[.agg #[.bool x.au, .bool x.up, .slice A.a A.n A.c, .slice A.a' A.n' A.c', .int .i64 x.st, .int .i64 x.sp, .int .i64 x.tk]] w fun e w' => e = .returned (.bool (okE x)) ∧ Below w.heap.size w w' := by
  have b0 : Below w.heap.size w (w.alloc (.cells #[.bool x.au, .bool x.up, .slice A.a A.n A.c, .slice A.a' A.n' A.c', .int .i64 x.st, .int .i64 x.sp, .int .i64 x.tk] 42)) := bl_alloc (Below.refl _ _) _
  have HCp := hidOf (flagOf_any A x _ (hI.keep b0) hn hn' hw)
  clear hI
  go_enter Try.func33, Try.ntmps33
  go_wp2_with fail
  refine (HCp.out).mono ?_
  rintro e w1 ⟨b, A1, rfl, _, _, hb1⟩
  go_wp2
  all_goals go_ret
  all_goals exact ⟨rfl, bl_trans b0 hb1⟩
end Go.Proofs.Ytoieefjlblkldab
