/-
  Both filters, the other filter: plain mathematics, and the two sides' walks.
-/
import Derived.Test.YtedaleonmcllkaaFC
import Derived.Test.YtedaleonmcllkaaBF5
import Derived.Test.YtedaleonmcllkaaSpF1
namespace Go.Proofs.Ytedaleonmcllkaa
open Go.RowKit Pl Il

def bothM (f g : List Tm) : Option (List Tm) :=
  if okF f = false then none else if okF g = false then none else if f = [] then some g else if g = [] then some f else if f.length + g.length + 1 ≤ 12 then some (f ++ g ++ [(9, 0, noT)]) else none
def otherM (f : List Tm) : Option (List Tm) :=
  if okF f = false then none else if f.length + 1 ≤ 12 then some ((if f = [] then [(1, 0, noT)] else f) ++ [(8, 0, noT)]) else none
theorem okF_le {f : List Tm} (h : okF f = true) : f.length ≤ 12 := by
  simp [okF] at h; exact h.1
/-- A list and a truth value answered, the list in new memory. -/
def OutF (w : World) (r : Option (List Tm)) (e : Ending) (w' : World) : Prop :=
  ∃ a n c, e = .returned (.tuple #[.slice a n c, .bool r.isSome]) ∧ n ≤ c ∧ n ≤ 64 ∧ OwnF w.heap.size w' a n (r.getD []) ∧ Below w.heap.size w w'
theorem OutF.none {w w' : World} {r : Option (List Tm)} (hr : r = .none) (hb : Below w.heap.size w w') : OutF w r (.returned (.tuple #[.slice none 0 0, .bool false])) w' := by
  subst hr
  exact ⟨_, 0, 0, rfl, Nat.le_refl _, by omega, ⟨TmAt.nil _ _, .inl rfl⟩, hb⟩
theorem ofk (op : Int) : ∀ p, p ∈ [((op, 0, noT) : Tm)] → p.2.2.size ≤ maxLen := fun p hp => by
  simp only [List.mem_singleton] at hp
  subst hp
  exact Nat.zero_le _
/-- One term is appended to an own row. -/
theorem append_tm1 (B m : Nat) (v : Value) (ys : List Tm) (op : Int) (w : World) (ho : w.ownsRow B 57 3 v m (qflat ys)) (hB : B ≤ w.heap.size) (hs : m + 1 ≤ 4194304) :
    ∃ (v' : Value) (w' : World), (Builtin.append_ #[24, 24] 24 #[v, .slice (some ⟨w.heap.size, 0, none⟩) 1 1]).run Try.prog (w.alloc (.cells #[.int .i64 op, .int .i64 0, .string ⟨#[]⟩] 57)) = .ok v' w' ∧
      w'.ownsRow B 57 3 v' (m + 1) (qflat (ys ++ [(op, 0, noT)])) ∧ w.grownBy w' v.ownBlock := by
  have hI : TmAt (w.alloc (.cells #[.int .i64 op, .int .i64 0, .string ⟨#[]⟩] 57)) (some ⟨w.heap.size, 0, none⟩) 1 [(op, 0, noT)] :=
    ⟨rfl, ofk op, .inr ⟨w.heap.size, 0, rfl, by simp, fun i hi => by
      obtain rfl : i = 0 := by omega
      simp [qg, noT]⟩⟩
  have hb0 : Below w.heap.size w (w.alloc (.cells #[.int .i64 op, .int .i64 0, .string ⟨#[]⟩] 57)) := bl_alloc (Below.refl _ _) _
  obtain ⟨v', w', hr, ho', hg⟩ := append_tms B v m ys _ 1 1 [(op, 0, noT)] _ (ho.alloc _) (by simp; omega) hI (by omega)
  refine ⟨v', w', hr, ho', ?_⟩
  exact ⟨hg.os.trans hb0.os, hg.tape.trans hb0.tape, hg.output.trans hb0.output, Nat.le_trans hb0.size hg.size, fun k hk hne => (hg.block k (Nat.lt_of_lt_of_le hk hb0.size) hne).trans (hb0.block k hk)⟩
theorem rowF_below {B : Nat} {w0 w w' : World} {v : Value} {n : Nat} {t : TypeId} {xs : List Value} (h : Below B w0 w) (ho : w.ownsRow B t 3 v n xs) (hg : w.grownBy w' v.ownBlock) (hB : B ≤ w.heap.size) : Below B w0 w' :=
  h.grown hg hB (fun k hk => (ho.lt k hk).1)
theorem rowF_keep {B : Nat} {w w' : World} {v : Value} {n : Nat} {t : TypeId} {xs : List Value} (h : w.ownsRow B t 3 v n xs) (hb : Below w.heap.size w w') : w'.ownsRow B t 3 v n xs := by
  refine h.kept (row := none) ⟨hb.os, hb.tape, hb.output, hb.size, fun k hk _ => hb.block k hk⟩ ?_
  cases v.ownBlock with
  | none => exact .inl rfl
  | some _ => exact .inr (by simp)
/-- What lies below stays, whatever is appended to a row from B on. -/
theorem TmAt.grown {B : Nat} {w w' : World} {v : Value} {m : Nat} {t : TypeId} {xs : List Value} {a : Option Addr} {n : Nat} {ts : List Tm} (h : TmAt w a n ts) (ho : w.ownsRow B t 3 v m xs) (hg : w.grownBy w' v.ownBlock) (hB : B ≤ w.heap.size) (hlt : n = 0 ∨ ∀ b off, a = some ⟨b, off, none⟩ → b < B) : TmAt w' a n ts :=
  h.below (rowF_below (Below.refl B w) ho hg hB) hlt
theorem OutF.some {w w' : World} {r : Option (List Tm)} {l : List Tm} {v : Value} {n : Nat} (hr : r = .some l) (hs : ∀ p, p ∈ l → p.2.2.size ≤ maxLen) (ho : w'.ownsRow w.heap.size 57 3 v n (qflat l)) (hn : n ≤ 64) (hb : Below w.heap.size w w') : OutF w r (.returned (.tuple #[v, .bool true])) w' := by
  subst hr
  obtain ⟨a, c, rfl, hc, h⟩ := ownF_of ho l rfl hs
  exact ⟨a, n, c, rfl, hc, hn, h, hb⟩
theorem short_snoc {l : List Tm} {op : Int} (h : ∀ p, p ∈ l → p.2.2.size ≤ maxLen) : ∀ p, p ∈ l ++ [(op, 0, noT)] → p.2.2.size ≤ maxLen := fun p hp => by
  rcases List.mem_append.1 hp with hp | hp
  · exact h p hp
  · exact ofk op p hp
theorem short_app {l m : List Tm} (h : ∀ p, p ∈ l → p.2.2.size ≤ maxLen) (k : ∀ p, p ∈ m → p.2.2.size ≤ maxLen) : ∀ p, p ∈ l ++ m → p.2.2.size ≤ maxLen := fun p hp => by
  rcases List.mem_append.1 hp with hp | hp
  · exact h p hp
  · exact k p hp
theorem slice_form {B : Nat} {w : World} {t : TypeId} {v : Value} {n : Nat} {l : List Tm} (ho : w.ownsRow B t 3 v n (qflat l)) : ∃ a c, v = .slice a n c := by
  obtain ⟨_, ⟨rfl, rfl⟩ | ⟨g, cp, cur, rfl, _⟩⟩ := ho
  · exact ⟨_, _, rfl⟩
  · exact ⟨_, _, rfl⟩
theorem other_no {f : List Tm} (h : okF f = false) : otherM f = none := by unfold otherM; rw [if_pos h]
theorem other_long {f : List Tm} (h : okF f = true) (hl : ¬ f.length + 1 ≤ 12) : otherM f = none := by unfold otherM; rw [if_neg (by rw [h]; simp), if_neg hl]
theorem other_nil : otherM [] = some ([(1, 0, noT)] ++ [(8, 0, noT)]) := rfl
theorem other_some {f : List Tm} (h : okF f = true) (hl : f.length + 1 ≤ 12) (h0 : f ≠ []) : otherM f = some (f ++ [(8, 0, noT)]) := by unfold otherM; rw [if_neg (by rw [h]; simp), if_pos hl, if_neg h0]
set_option maxRecDepth 100000 in
set_option maxHeartbeats 2000000 in
theorem implOther_any (a : Option Addr) (n cap : Nat) (ts : List Tm) (w : World) (hI : TmAt w a n ts) (hn : n ≤ 9223372036854775807) :
    Calls Try.prog 11 #[.slice a n cap] w fun e w' => OutF w (otherM ts) e w' := by
  have hlen := hI.len
  have HF := hidOf (implFilterOk_any a n cap ts w hI hn)
  have HI := hidOf hI
  clear hI
  cases hok : okF ts
  · have HR := hidOf (other_no hok)
    rw [hok] at HF
    clear hok
    go_enter Try.func11, Try.ntmps11
    go_wp2_with fail
    refine (HF.out).mono ?_
    rintro e w1 ⟨rfl, hb1⟩
    have HB := hidOf hb1
    clear hb1 HF
    go_wp2
    first | go_ret | go_ret2
    exact OutF.none HR.out HB.out
  · rw [hok] at HF
    have hle := okF_le hok
    have HO := hidOf hok
    clear hok
    go_enter Try.func11, Try.ntmps11
    go_wp2_with fail
    refine (HF.out).mono ?_
    rintro e w1 ⟨rfl, hb1⟩
    have HB := hidOf hb1
    clear hb1 HF
    go_wp2_with fail
    refine (copiedF_any a n cap ts _ (HI.out.keep HB.out) (by omega)).mono ?_
    rintro e w2 ⟨a2, c2, rfl, ho2, hb2⟩
    by_cases h0 : n = 0
    · subst h0
      obtain rfl : ts = [] := List.length_eq_zero_iff.1 hlen
      have hbA := bl_trans HB.out hb2
      obtain ⟨W, hW⟩ : ∃ W, W = w2.alloc (.cells #[.int .i64 1, .int .i64 0, .string ⟨#[]⟩] 57) := ⟨_, rfl⟩
      have oW : W.ownsRow w2.heap.size 57 3 (.slice (some ⟨w2.heap.size, 0, none⟩) 1 1) 1 (qflat [(1, 0, noT)]) := by
        have h := World.ownsRow_lit (base := w2.heap.size) (e := 57) (size := 3) w2 #[.int .i64 1, .int .i64 0, .string ⟨#[]⟩] 1 (Nat.le_refl _) (by unfold maxLen; omega) rfl
        rw [hW]; exact h
      have bW : Below w.heap.size w W := by rw [hW]; exact bl_alloc hbA _
      have sW : w2.heap.size ≤ W.heap.size := by rw [hW]; simp
      obtain ⟨v3, w3, hr3, ho3, hg3⟩ := append_tm1 w2.heap.size 1 _ [(1, 0, noT)] 8 W oW sW (by omega)
      have hb3 : Below w.heap.size w w3 := rowF_below bW (oW.mono hbA.size) hg3 bW.size
      obtain ⟨a3, c3, rfl⟩ := slice_form ho3
      rw [hW] at hr3
      simp only [World.size_alloc] at hr3
      have Hr := hidOf hr3
      have HFin := hidOf (OutF.some other_nil (short_snoc (ofk 1)) (ho3.mono hbA.size) (by omega) hb3)
      clear hr3 ho3 hg3 oW bW sW hb3 hbA ho2 hb2 HB HI HO hlen hle hn hW
      go_wp2_with (at_builtin; refine wpList_append_run rfl _ _ 24 rfl _ _ _ rfl rfl Hr.out ?_)
      first | go_ret | go_ret2
      exact HFin.out
    · have hbA := bl_trans HB.out hb2
      obtain ⟨v3, w3, hr3, ho3, hg3⟩ := append_tm1 w1.heap.size n _ ts 8 w2 ho2 hb2.size (by omega)
      have hb3 : Below w.heap.size w w3 := rowF_below hbA (ho2.mono HB.out.size) hg3 hbA.size
      obtain ⟨a3, c3, rfl⟩ := slice_form ho3
      have Hr := hidOf hr3
      have e0 : ((n : Int) == 0) = false := by simp; omega
      have hne : ts ≠ [] := by rintro rfl; simp at hlen; omega
      by_cases h12 : 12 < ((n + 1 : Nat) : Int)
      · have HFin := hidOf (OutF.none (other_long HO.out (by omega)) hb3)
        clear hr3 ho3 hg3 hb3 hbA ho2 hb2 HB HI HO
        go_wp2_with (at_builtin; refine wpList_append_run rfl _ _ 24 rfl _ _ _ rfl rfl Hr.out ?_)
        first | go_ret | go_ret2
        exact HFin.out
      · have HFin := hidOf (OutF.some (other_some HO.out (by omega) hne) (short_snoc HI.out.short) (ho3.mono HB.out.size) (by omega) hb3)
        clear hr3 ho3 hg3 hb3 hbA ho2 hb2 HB HI HO
        go_wp2_with (at_builtin; refine wpList_append_run rfl _ _ 24 rfl _ _ _ rfl rfl Hr.out ?_)
        first | go_ret | go_ret2
        exact HFin.out
theorem both_no1 {f g : List Tm} (h : okF f = false) : bothM f g = none := by unfold bothM; rw [if_pos h]
theorem both_no2 {f g : List Tm} (h0 : okF f = true) (h : okF g = false) : bothM f g = none := by unfold bothM; rw [if_neg (by rw [h0]; simp), if_pos h]
theorem both_one {f g : List Tm} (h0 : okF f = true) (h1 : okF g = true) (h : f = [] ∨ g = []) : bothM f g = some (f ++ g) := by
  unfold bothM
  rw [if_neg (by rw [h0]; simp), if_neg (by rw [h1]; simp)]
  rcases h with rfl | rfl
  · simp
  · by_cases hf : f = []
    · subst hf; simp
    · simp [hf]
theorem both_long {f g : List Tm} (h0 : okF f = true) (h1 : okF g = true) (hf : f ≠ []) (hg : g ≠ []) (hl : ¬ f.length + g.length + 1 ≤ 12) : bothM f g = none := by
  unfold bothM
  rw [if_neg (by rw [h0]; simp), if_neg (by rw [h1]; simp), if_neg hf, if_neg hg, if_neg hl]
theorem both_some {f g : List Tm} (h0 : okF f = true) (h1 : okF g = true) (hf : f ≠ []) (hg : g ≠ []) (hl : f.length + g.length + 1 ≤ 12) : bothM f g = some (f ++ g ++ [(9, 0, noT)]) := by
  unfold bothM
  rw [if_neg (by rw [h0]; simp), if_neg (by rw [h1]; simp), if_neg hf, if_neg hg, if_pos hl]
set_option maxRecDepth 100000 in
set_option maxHeartbeats 2000000 in
theorem specOther_any (a : Option Addr) (n cap : Nat) (ts : List Tm) (w : World) (hI : TmAt w a n ts) (hn : n ≤ 9223372036854775807) :
    Calls Try.prog 12 #[.slice a n cap] w fun e w' => OutF w (otherM ts) e w' := by
  have hlen := hI.len
  have HF := hidOf (specFilterOk_any a n cap ts w hI hn)
  have HI := hidOf hI
  clear hI
  cases hok : okF ts
  · have HR := hidOf (other_no hok)
    rw [hok] at HF
    clear hok
    go_enter Try.func12, Try.ntmps12
    go_wp2_with fail
    refine (HF.out).mono ?_
    rintro e w1 ⟨rfl, hb1⟩
    have HB := hidOf hb1
    clear hb1 HF
    go_wp2
    first | go_ret | go_ret2
    exact OutF.none HR.out HB.out
  · rw [hok] at HF
    have hle := okF_le hok
    have HO := hidOf hok
    clear hok
    go_enter Try.func12, Try.ntmps12
    go_wp2_with fail
    refine (HF.out).mono ?_
    rintro e w1 ⟨rfl, hb1⟩
    have HB := hidOf hb1
    clear hb1 HF
    by_cases h12 : 12 < (n : Int) + 1
    · have HFin := hidOf (OutF.none (other_long HO.out (by omega)) HB.out)
      clear HB HI HO
      go_wp2
      first | go_ret | go_ret2
      exact HFin.out
    · have h12' : ¬ 12 < (n : Int) + 1 := h12
      obtain ⟨W, hW⟩ : ∃ W, W = w1.alloc (.cells #[] 57) := ⟨_, rfl⟩
      have bW : Below w.heap.size w W := by rw [hW]; exact bl_alloc HB.out _
      have oW : W.ownsRow w.heap.size 57 3 (.slice (some ⟨w1.heap.size, 0, none⟩) 0 0) 0 (qflat []) := by rw [hW]; exact World.ownsRow_made w1 #[] 0 HB.out.size (by unfold maxLen; omega) (by simp)
      obtain ⟨v2, w2, hr2, ho2, hg2⟩ := append_tms w.heap.size _ 0 [] a n cap ts W oW bW.size (HI.out.keep bW) (by omega)
      rw [Nat.zero_add, List.nil_append] at ho2
      have hb2 : Below w.heap.size w w2 := rowF_below bW oW hg2 bW.size
      obtain ⟨a2, c2, rfl⟩ := slice_form ho2
      rw [hW] at hr2
      have Hr2 := hidOf hr2
      by_cases h0 : n = 0
      · subst h0
        obtain rfl : ts = [] := List.length_eq_zero_iff.1 hlen
        obtain ⟨v3, w3, hr3, ho3, hg3⟩ := append_tm1 w.heap.size 0 _ [] 1 w2 ho2 hb2.size (by omega)
        have hb3 : Below w.heap.size w w3 := rowF_below hb2 ho2 hg3 hb2.size
        obtain ⟨a3, c3, rfl⟩ := slice_form ho3
        obtain ⟨v4, w4, hr4, ho4, hg4⟩ := append_tm1 w.heap.size 1 _ _ 8 w3 ho3 hb3.size (by omega)
        have hb4 : Below w.heap.size w w4 := rowF_below hb3 ho3 hg4 hb3.size
        obtain ⟨a4, c4, rfl⟩ := slice_form ho4
        have Hr3 := hidOf hr3
        have Hr4 := hidOf hr4
        have HFin := hidOf (OutF.some other_nil (short_snoc (ofk 1)) ho4 (by omega) hb4)
        clear hr2 hr3 hr4 ho2 ho3 ho4 hg2 hg3 hg4 hb2 hb3 hb4 oW bW hW HB HI HO
        go_wp2_with (at_builtin; first | (refine wpList_append_run rfl _ _ 24 rfl _ _ _ rfl rfl Hr2.out ?_) | (refine wpList_append_run rfl _ _ 24 rfl _ _ _ rfl rfl Hr3.out ?_) | (refine wpList_append_run rfl _ _ 24 rfl _ _ _ rfl rfl Hr4.out ?_))
        first | go_ret | go_ret2
        exact HFin.out
      · obtain ⟨v3, w3, hr3, ho3, hg3⟩ := append_tm1 w.heap.size n _ ts 8 w2 ho2 hb2.size (by omega)
        have hb3 : Below w.heap.size w w3 := rowF_below hb2 ho2 hg3 hb2.size
        obtain ⟨a3, c3, rfl⟩ := slice_form ho3
        have Hr3 := hidOf hr3
        have e0 : ((n : Int) == 0) = false := by simp; omega
        have hne : ts ≠ [] := by rintro rfl; simp at hlen; omega
        have HFin := hidOf (OutF.some (other_some HO.out (by omega) hne) (short_snoc HI.out.short) ho3 (by omega) hb3)
        clear hr2 hr3 ho2 ho3 hg2 hg3 hb2 hb3 oW bW hW HB HI HO
        go_wp2_with (at_builtin; first | (refine wpList_append_run rfl _ _ 24 rfl _ _ _ rfl rfl Hr2.out ?_) | (refine wpList_append_run rfl _ _ 24 rfl _ _ _ rfl rfl Hr3.out ?_))
        first | go_ret | go_ret2
        exact HFin.out
end Go.Proofs.Ytedaleonmcllkaa
