/-
  A ring's body, closed.
-/
import Derived.Test.YtihdglmiecifjaaGreatZRa60
import Derived.Test.YtihdglmiecifjaaGreatZRa61
import Derived.Test.YtihdglmiecifjaaGreatZRa37
import Derived.Test.YtihdglmiecifjaaGreatZRa38
namespace Go.Proofs.YtihdglmiecifjaaGreat
open Go.RowKit Go.Maps Pl Il

theorem RBody.shut {B b : Nat} {A : Na} {P : Nat → Tm} {f : Nat} {v : Rv} {sa : Option Addr} {s sc : Nat} {ys : List Sa} {w : World} (h : RBody B b A P f v sa s sc ys w) (k : Bool) : RBody B b A P f { v with cl := k } sa s sc ys (w.setCell ⟨b, 58, none⟩ (.bool k)) := by
  have ot : ∀ o, o ≠ 58 → (w.setCell ⟨b, 58, none⟩ (.bool k)).cell? ⟨b, o, none⟩ = w.cell? ⟨b, o, none⟩ := fun o ho => World.cell?_setCell_other _ _ _ _ (by intro e; cases e; exact ho rfl)
  refine ⟨⟨by simpa using h.wst.lt, h.wst.ge, by rw [ot 0 (by omega)]; exact h.wst.c0, by rw [ot 1 (by omega)]; exact h.wst.c1, fun o => by simpa using h.wst.fr o, ⟨row_set h.wst.rows.one b 58 h.wst.ne1 _, row_set h.wst.rows.two b 58 h.wst.ne2 _, h.wst.rows.ne⟩, h.wst.ne1, h.wst.ne2⟩, ⟨?_, fun j hj => ?_⟩, by rw [ot 2 (by omega)]; exact h.c2, by rw [ot _ (by omega)]; exact h.fst, by rw [ot _ (by omega)]; exact h.nxt, by rw [ot 56 (by omega)]; exact h.c56, by rw [ot 57 (by omega)]; exact h.c57, World.cell?_setCell_same _ _ _ h.c58, ⟨rowG h.srow.sb (grown_setC _ _ _ _) (fun q e => by injection e with e; rw [← e]; exact h.nb.1), fun x hx => rowG (h.srow.fl x hx) (grown_setC _ _ _ _) (fun q e => by injection e with e; rw [← e]; exact h.nb.2 x hx), h.srow.fls, h.srow.apt⟩, h.sv, h.its, h.sh, h.se, h.few, h.nb, h.ap⟩
  · obtain ⟨cur, t, hg, hs1⟩ := h.rnd.blk
    obtain ⟨cur', hg', hs'⟩ := Shp.set b 58 w (.bool k) cur t hg
    exact ⟨cur', t, hg', by omega⟩
  · obtain ⟨h1, h2, h3⟩ := h.rnd.pl j hj
    exact ⟨by rw [ot _ (by omega)]; exact h1, by rw [ot _ (by omega)]; exact h2, by rw [ot _ (by omega)]; exact h3⟩
theorem ok_few {v : Rv} (h : okR restR v = true) : v.ln.length ≤ 32 := by
  have h0 := h
  simp only [okR, headR, lenR, Bool.and_eq_true, decide_eq_true_eq] at h0
  obtain ⟨_, _, ⟨_, hf, _⟩, _⟩ := h0
  omega
theorem wake_all (xs : List Int) : wakeN xs (xs.length : Int) = xs.length := by rw [wakeN_in (by omega)]; omega
end Go.Proofs.YtihdglmiecifjaaGreat
