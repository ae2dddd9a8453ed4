/-
  Walks of the laws' own helpers on notifications: marked, looked at again; what a marking leaves alone.
-/
import Derived.Test.YtfgknbflgmblmaaLN3
namespace Go.Proofs.Ytfgknbflgmblmaa
open Go.RowKit Pl Il

/-- A notification whose lists hold marks. -/
def markN (k : Int) (A : Na) : Nt := { Nt.zero with ln := marks k A.n, gs := marksG (k + (A.n : Int)) A.n' }
theorem markNotify_any (B : Nat) (A : Na) (x : Nt) (k : Int) (w : World) (hO : NOwn B w A x) (hn : A.n ≤ 2097152) (hn' : A.n' ≤ 2097152) (k0 : 0 ≤ k) (k1 : k ≤ 100000000) :
    Calls Try.prog 33 #[.agg #[.bool x.pm, .slice A.a A.n A.c, .slice A.a' A.n' A.c', .int .i64 x.on, .int .i64 x.sp, .int .i64 x.tk], .int .i64 k] w fun e w' => e = .returned (.int .i64 (k + (A.n : Int) + 2 * (A.n' : Int))) ∧ NOwn B w' A (markN k A) ∧ Turned A.a A.n A.a' A.n' w w' := by
  obtain ⟨a, n, c, a', n', c'⟩ := A
  simp only [markN] at *
  generalize hW0 : w.alloc (.cells #[.bool x.pm, .slice a n c, .slice a' n' c', .int .i64 x.on, .int .i64 x.sp, .int .i64 x.tk] 27) = W0
  have B0 : Below w.heap.size w W0 := by subst hW0; exact bl_alloc (Below.refl _ _) _
  have x0 : NBox w.heap.size ⟨a, n, c, a', n', c'⟩ x W0 := by subst hW0; exact NBox.new w ⟨a, n, c, a', n', c'⟩ x _
  have hO0 := hO.keep B0
  obtain ⟨_, p0, p1, p2, p3, p4, p5, _⟩ := id x0
  have X0 := hidOf x0
  have HO := hidOf hO
  clear hO x0
  go_enter Try.func33, Try.ntmps33
  go_wp2_with fail
  refine (markIntS_any B a n c x.ln k _ hO0.one hn k0 (by omega)).mono ?_
  rintro e w1 ⟨rfl, ho1, ht1⟩
  have hlt : ∀ b off, a = some ⟨b, off, none⟩ → 0 < n → b < w.heap.size := fun b off e hp => by
    rcases HO.out.one.ints.row with h0 | ⟨b1, o1, e1, hb, _⟩
    · dsimp only at h0; omega
    · rw [e] at e1; cases e1; exact hb
  have hlt' : ∀ b off, a' = some ⟨b, off, none⟩ → 0 < n' → b < w.heap.size := fun b off e hp => by
    rcases HO.out.two.gr.row with h0 | ⟨b1, o1, e1, hb, _⟩
    · dsimp only at h0; omega
    · rw [e] at e1; cases e1; exact hb
  have hbl : W0.heap.size ≤ w1.heap.size ∧ w1.os = W0.os ∧ w1.tape = W0.tape ∧ w1.output = W0.output ∧ ∀ j, j < W0.heap.size → (∀ off, 0 < n → a ≠ some ⟨j, off, none⟩) → w1.heap[j]? = W0.heap[j]? := by
    rcases ht1 with ⟨_, rfl⟩ | ⟨hp, b, off, rfl, hg⟩
    · exact ⟨Nat.le_refl _, rfl, rfl, rfl, fun _ _ _ => rfl⟩
    · exact ⟨hg.size, hg.os, hg.tape, hg.output, fun j hj hne => hg.block j hj (by intro e; cases e; exact hne off hp rfl)⟩
  have r1 : w1.cell? ⟨w.heap.size, 2, none⟩ = some (.slice a' n' c') := by
    rw [← X0.out.c2]
    exact World.cell?_of_block (hbl.2.2.2.2 _ X0.out.lt (fun off hp e => Nat.lt_irrefl _ (hlt w.heap.size off e hp)))
  have hq1 : OwnG B w1 a' n' x.gs := by
    rcases ht1 with ⟨_, rfl⟩ | ⟨hp, b, off, rfl, hg⟩
    · exact hO0.two
    · refine hO0.two.other hg ?_
      rcases HO.out.apart with h0 | h0 | h0
      · dsimp only at h0; omega
      · exact .inl h0
      · exact .inr fun b' off' e => h0 b off b' off' rfl e
  have hs0 : W0.heap.size = w.heap.size + 1 := by subst hW0; simp
  have HBL := hidOf hbl
  have H1 := hidOf ho1
  clear ht1 hO0 hbl ho1 X0 p0 p1 p2 p3 p4 p5 hW0
  go_wp2_with fail
  refine (markGrantS_any B a' n' c' x.gs (k + (n : Int)) _ hq1 hn' (by omega) (by omega)).mono ?_
  rintro e w2 ⟨rfl, ho2, ht2⟩
  have ho1' : Il.OwnAt B w2 a n (marks k n) := by
    rcases ht2 with ⟨_, hb2⟩ | ⟨hp, b, off, rfl, hg⟩
    · exact H1.out.keep hb2
    · refine H1.out.other hg ?_
      rcases HO.out.apart with h0 | h0 | h0
      · exact .inl h0
      · dsimp only at h0; omega
      · exact .inr fun b' off' e => (h0 b' off' b off e rfl).symm
  have hT : Turned a n a' n' w w2 := by
    obtain ⟨z1, z2, z3, z4, z5⟩ := HBL.out
    have hb2 : w1.heap.size ≤ w2.heap.size ∧ w2.os = w1.os ∧ w2.tape = w1.tape ∧ w2.output = w1.output ∧ ∀ j, j < w1.heap.size → (∀ off, 0 < n' → a' ≠ some ⟨j, off, none⟩) → w2.heap[j]? = w1.heap[j]? := by
      rcases ht2 with ⟨_, hb2⟩ | ⟨hp, b, off, rfl, hg⟩
      · exact ⟨hb2.size, hb2.os, hb2.tape, hb2.output, fun j hj _ => hb2.block j hj⟩
      · exact ⟨hg.size, hg.os, hg.tape, hg.output, fun j hj hne => hg.block j hj (by intro e; cases e; exact hne off hp rfl)⟩
    obtain ⟨y1, y2, y3, y4, y5⟩ := hb2
    exact ⟨y2.trans (z2.trans B0.os), y3.trans (z3.trans B0.tape), y4.trans (z4.trans B0.output), by omega, fun j hj h1 h2 => (y5 j (by omega) h2).trans ((z5 j (by omega) h1).trans (B0.block j hj))⟩
  have hF : NOwn B w2 ⟨a, n, c, a', n', c'⟩ { Nt.zero with ln := marks k n, gs := marksG (k + (n : Int)) n' } := ⟨ho1', ho2, HO.out.apart⟩
  have HF := hidOf hF
  clear hF
  clear ho1' ho2 ht2 HO H1 HBL hq1 r1
  go_wp2
  go_ret
  exact ⟨rfl, HF.out, hT⟩

theorem heldNotify_marks (A : Na) (x : Nt) (k : Int) (w : World) (hO : NIn w A (markN k A)) (hn : A.n ≤ 2097152) (hn' : A.n' ≤ 2097152) (k0 : 0 ≤ k) (k1 : k ≤ 100000000) :
    Calls Try.prog 34 #[.agg #[.bool x.pm, .slice A.a A.n A.c, .slice A.a' A.n' A.c', .int .i64 x.on, .int .i64 x.sp, .int .i64 x.tk], .int .i64 k] w fun e w' => e = .returned (.int .i64 (k + (A.n : Int) + 2 * (A.n' : Int))) ∧ Below w.heap.size w w' := by
  obtain ⟨a, n, c, a', n', c'⟩ := A
  simp only [markN] at *
  generalize hW0 : w.alloc (.cells #[.bool x.pm, .slice a n c, .slice a' n' c', .int .i64 x.on, .int .i64 x.sp, .int .i64 x.tk] 27) = W0
  have B0 : Below w.heap.size w W0 := by subst hW0; exact bl_alloc (Below.refl _ _) _
  have x0 : NBox w.heap.size ⟨a, n, c, a', n', c'⟩ x W0 := by subst hW0; exact NBox.new w ⟨a, n, c, a', n', c'⟩ x _
  have hO0 := hO.keep B0
  obtain ⟨_, p0, p1, p2, p3, p4, p5, _⟩ := id x0
  have g1 : ¬ k + (n : Int) < 0 := by omega
  have g2 : ¬ k + (n : Int) + 2 * (n' : Int) < 0 := by omega
  clear hO x0
  go_enter Try.func34, Try.ntmps34
  go_wp2_with fail
  refine (heldIntS_marks a n c k _ hO0.ints hn k0 (by omega)).mono ?_
  rintro e w1 ⟨rfl, rfl⟩
  go_wp2_with fail
  refine (heldGrantS_marks a' n' c' (k + (n : Int)) _ hO0.grs hn' (by omega) (by omega)).mono ?_
  rintro e w2 ⟨rfl, rfl⟩
  go_wp2
  go_ret
  exact ⟨rfl, B0⟩
theorem OwnG.turned {B : Nat} {w w' : World} {a : Option Addr} {n : Nat} {xs : List (Int × Bool)} {a1 : Option Addr} {n1 : Nat} {a2 : Option Addr} {n2 : Nat} (h : OwnG B w a n xs) (ht : Turned a1 n1 a2 n2 w w')
    (h1 : n1 = 0 ∨ ∀ b off, a1 = some ⟨b, off, none⟩ → b < B) (h2 : n2 = 0 ∨ ∀ b off, a2 = some ⟨b, off, none⟩ → b < B) : OwnG B w' a n xs := by
  obtain ⟨⟨hl, hr⟩, ho⟩ := h
  rcases hr with h0 | ⟨b1, off, rfl, hlt, hc⟩
  · exact ⟨⟨hl, .inl h0⟩, .inl h0⟩
  · rcases ho with h0 | ⟨b', off', e, hB, hf⟩
    · exact ⟨⟨hl, .inl h0⟩, .inl h0⟩
    · cases e
      have key : w'.heap[b1]? = w.heap[b1]? := ht.block b1 hlt
        (fun o hp e => by rcases h1 with h1 | h1; · omega
                          · have := h1 _ _ e; omega)
        (fun o hp e => by rcases h2 with h2 | h2; · omega
                          · have := h2 _ _ e; omega)
      refine ⟨⟨hl, .inr ⟨b1, off, rfl, Nat.lt_of_lt_of_le hlt ht.size, fun i hi => ?_⟩⟩, .inr ⟨b1, off, rfl, hB, fun o => ?_⟩⟩
      · rw [World.cell?_of_block (w := w) (a := ⟨b1, off + i * 2, none⟩) key, World.cell?_of_block (w := w) (a := ⟨b1, off + i * 2 + 1, none⟩) key]; exact hc i hi
      · rw [← hf o]; exact World.frozen?_of_block key
theorem NOwn.turned {B : Nat} {w w' : World} {A : Na} {x : Nt} {a1 : Option Addr} {n1 : Nat} {a2 : Option Addr} {n2 : Nat} (h : NOwn B w A x) (ht : Turned a1 n1 a2 n2 w w')
    (h1 : n1 = 0 ∨ ∀ b off, a1 = some ⟨b, off, none⟩ → b < B) (h2 : n2 = 0 ∨ ∀ b off, a2 = some ⟨b, off, none⟩ → b < B) : NOwn B w' A x := ⟨h.one.turned ht h1 h2, h.two.turned ht h1 h2, h.apart⟩
theorem NBox.turned {N : Nat} {A : Na} {x : Nt} {w u : World} {a1 : Option Addr} {n1 : Nat} {a2 : Option Addr} {n2 : Nat} (h : NBox N A x w) (ht : Turned a1 n1 a2 n2 w u)
    (h1 : n1 = 0 ∨ ∀ b off, a1 = some ⟨b, off, none⟩ → b < N) (h2 : n2 = 0 ∨ ∀ b off, a2 = some ⟨b, off, none⟩ → b < N) : NBox N A x u :=
  h.of_block (ht.block N h.lt
    (fun o hp e => by rcases h1 with h1 | h1; · omega
                      · have := h1 _ _ e; omega)
    (fun o hp e => by rcases h2 with h2 | h2; · omega
                      · have := h2 _ _ e; omega)) (Nat.lt_of_lt_of_le h.lt ht.size)
theorem NOwn.spans {B : Nat} {w : World} {A : Na} {x : Nt} (h : NOwn B w A x) : (A.n = 0 ∨ ∀ b off, A.a = some ⟨b, off, none⟩ → B ≤ b ∧ b < w.heap.size) ∧ (A.n' = 0 ∨ ∀ b off, A.a' = some ⟨b, off, none⟩ → B ≤ b ∧ b < w.heap.size) := by
  constructor
  · rcases h.one.ints.row with h0 | ⟨b, off, e1, hlt, _⟩
    · exact .inl h0
    · rcases h.one.own with h0 | ⟨b', off', e, hB, _⟩
      · exact .inl h0
      · rw [e1] at e; cases e
        exact .inr fun b1 o1 e => by rw [e1] at e; cases e; exact ⟨hB, hlt⟩
  · rcases h.two.gr.row with h0 | ⟨b, off, e1, hlt, _⟩
    · exact .inl h0
    · rcases h.two.own with h0 | ⟨b', off', e, hB, _⟩
      · exact .inl h0
      · rw [e1] at e; cases e
        exact .inr fun b1 o1 e => by rw [e1] at e; cases e; exact ⟨hB, hlt⟩
theorem mark_nn3 (n n' : Nat) : ¬ 1 + (n : Int) + 2 * (n' : Int) < 0 := by omega
end Go.Proofs.Ytfgknbflgmblmaa
