/-
  Closed facts on the program as a whole, each a theorem of its own (the kernel gives its memory back behind each).
-/
import Derived.Test.YtfgknbflgmblmaaRows
import Derived.ProofKit
import Derived.OpenShut
import Derived.ChangeOld
import Derived.Lib.SmallJoins
namespace Go.Proofs.Ytfgknbflgmblmaa
open Go.ChangeShapes Go.WideShapes Go.ChangeAt Go.RowKit Go.Joins

theorem js1 : (laidOutB Try.prog) = true := by kernel_rfl
theorem js2 : (mapsRowed Try.prog) = true := by kernel_rfl
theorem js6 : ((Try.prog.stops == [])) = true := by kernel_rfl
theorem js8 : ((Try.prog.stopKnobs == [])) = true := by kernel_rfl
theorem js22 : ((true == Try.prog.plainKeys)) = true := by kernel_rfl
theorem js24 : (Try.prog.stopsHeard) = true := by kernel_rfl
theorem js25 : (Try.prog.mayEnter) = true := by kernel_rfl
theorem js26 : ((false == Try.prog.liftsFinal)) = true := by kernel_rfl
theorem js27 : ((Try.prog.make == some Make.cut)) = true := by kernel_rfl
theorem and_all {b0 b1 b2 b3 b4 b5 b6 b7 b8 b9 b10 b11 b12 b13 b14 b15 b16 b17 b18 b19 b20 b21 b22 b23 b24 b25 b26 b27 b28 b29 b30 b31 : Bool} (h0 : b0 = true) (h1 : b1 = true) (h2 : b2 = true) (h3 : b3 = true) (h4 : b4 = true) (h5 : b5 = true) (h6 : b6 = true) (h7 : b7 = true) (h8 : b8 = true) (h9 : b9 = true) (h10 : b10 = true) (h11 : b11 = true) (h12 : b12 = true) (h13 : b13 = true) (h14 : b14 = true) (h15 : b15 = true) (h16 : b16 = true) (h17 : b17 = true) (h18 : b18 = true) (h19 : b19 = true) (h20 : b20 = true) (h21 : b21 = true) (h22 : b22 = true) (h23 : b23 = true) (h24 : b24 = true) (h25 : b25 = true) (h26 : b26 = true) (h27 : b27 = true) (h28 : b28 = true) (h29 : b29 = true) (h30 : b30 = true) (h31 : b31 = true) : (b0 && b1 && b2 && b3 && b4 && b5 && b6 && b7 && b8 && b9 && b10 && b11 && b12 && b13 && b14 && b15 && b16 && b17 && b18 && b19 && b20 && b21 && b22 && b23 && b24 && b25 && b26 && b27 && b28 && b29 && b30 && b31) = true := by
  subst h0 h1 h2 h3 h4 h5 h6 h7 h8 h9 h10 h11 h12 h13 h14 h15 h16 h17 h18 h19 h20 h21 h22 h23 h24 h25 h26 h27 h28 h29 h30 h31
  rfl
end Go.Proofs.Ytfgknbflgmblmaa
