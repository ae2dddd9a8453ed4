/-
  Walk of the law on both filters.
-/
import Derived.Test.YtedaleonmcllkaaDF3
import Derived.Test.YtedaleonmcllkaaFX
import Derived.Test.YtedaleonmcllkaaFA
import Derived.Test.YtedaleonmcllkaaFO2
import Derived.Test.YtedaleonmcllkaaFO3
import Derived.Test.YtedaleonmcllkaaWF4
namespace Go.Proofs.Ytedaleonmcllkaa
open Go.RowKit Pl Il Dr

theorem numMsg_any (n : Int) (w : World) : Calls Try.prog 20 #[.int .i64 n] w fun e w' => e = .returned (.agg #[.int .i64 1, .int .i64 n, .string ⟨#[]⟩]) ∧ Below w.heap.size w w' := by
  go_enter Try.func20, Try.ntmps20
  go_wp2
  refine bodyPost_ret (v := .agg #[.int .i64 1, .int .i64 n, .string ⟨#[]⟩]) (by simp [results, Try.results20, go_sem]) rfl ⟨rfl, ?_⟩
  repeat (first | exact Below.refl _ _ | apply Below.drew | apply bl_alloc)
theorem Pl.Box3.set0e {N : Nat} {v0 v1 v2 : Value} {w : World} (h : Box3 N v0 v1 v2 w) (y : Value) : Box3 N y v1 v2 (w.setCell ⟨N, 0, none⟩ y) :=
  ⟨by simpa using h.lt, World.cell?_setCell_same _ _ _ h.c0, by rw [World.cell?_setCell_other _ _ _ _ (by simp)]; exact h.c1, by rw [World.cell?_setCell_other _ _ _ _ (by simp)]; exact h.c2, fun k => by simpa using h.fr k⟩
theorem Pl.Box3.set1e {N : Nat} {v0 v1 v2 : Value} {w : World} (h : Box3 N v0 v1 v2 w) (y : Value) : Box3 N v0 y v2 (w.setCell ⟨N, 1, none⟩ y) :=
  ⟨by simpa using h.lt, by rw [World.cell?_setCell_other _ _ _ _ (by simp)]; exact h.c0, World.cell?_setCell_same _ _ _ h.c1, by rw [World.cell?_setCell_other _ _ _ _ (by simp)]; exact h.c2, fun k => by simpa using h.fr k⟩
theorem Pl.Box3.set2e {N : Nat} {v0 v1 v2 : Value} {w : World} (h : Box3 N v0 v1 v2 w) (y : Value) : Box3 N v0 v1 y (w.setCell ⟨N, 2, none⟩ y) :=
  ⟨by simpa using h.lt, by rw [World.cell?_setCell_other _ _ _ _ (by simp)]; exact h.c0, by rw [World.cell?_setCell_other _ _ _ _ (by simp)]; exact h.c1, World.cell?_setCell_same _ _ _ h.c2, fun k => by simpa using h.fr k⟩
theorem strs5 (w : World) : ∀ x : Nat, x < 5 → ∃ v : ByteArray, (w.alloc (.cells #[.string ⟨#[]⟩, .string ⟨#[97, 98]⟩, .string ⟨#[104, 101, 108, 108, 111]⟩, .string ⟨#[122, 122]⟩, .string ⟨#[98]⟩] 9)).cell? ⟨w.heap.size, x, none⟩ = some (.string v) ∧ v.size ≤ 40 := row_strs w _ 9 5 (by decide)
theorem pass_both {f g h : List Tm} (hb : bothM f g = some h) (k n : Int) (s : ByteArray) : passM h k n s = (passM f k n s && passM g k n s) := by
  obtain ⟨h1, h2, h3, h4⟩ := both_pass hb
  unfold passM
  rw [h1, h2, h3, h4]
  cases okB k n s <;> cases passP f (bdOf k n s) <;> cases passP g (bdOf k n s) <;> rfl
theorem both_big (a : Option Addr) (len cap : Nat) (w : World) (hl : 1048576 < len) :
    Calls Try.prog 4 #[.slice a len cap] w fun e w' => e = .returned (.bool true) ∧ Below w.heap.size w w' := by
  go_enter Try.func4, Try.ntmps4
  go_wp2_with fail
  refine (bigC_any a len cap _).mono ?_
  rintro e w1 ⟨rfl, rfl⟩
  rw [show decide (1048576 < len) = true by simp [hl]]
  go_wp2
  go_ret
  exact ⟨rfl, Below.refl _ _⟩
set_option maxRecDepth 100000 in
set_option maxHeartbeats 8000000 in
theorem both_small (a : Option Addr) (len cap : Nat) (w : World) (hB : Bytes w.heap.size w a len cap) (hl : len ≤ 1048576) (hG : GOk w) :
    Calls Try.prog 4 #[.slice a len cap] w fun e w' => e = .returned (.bool true) ∧ Below w.heap.size w w' := by
  have HB := hidOf hB
  have HG := hidOf hG
  clear hB hG
  go_enter Try.func4, Try.ntmps4
  go_wp2_with fail
  refine (bigC_any a len cap _).mono ?_
  rintro e w0 ⟨rfl, rfl⟩
  rw [show decide (1048576 < len) = false by simp; omega]
  go_wp2_with fail
  refine (drawBoth_any a len cap _ HB.out).mono ?_
  rintro e w1 ⟨a1, m1, c1, f, a2, m2, c2, g, rfl, hm1, hm2, hf, hg, hb1⟩
  have HF := hidOf hf
  have HGl := hidOf hg
  have HB1 := hidOf hb1
  clear hf hg hb1
  go_wp2_with fail
  refine (implBoth_any _ _ m1 m2 c1 c2 f g _ HF.out HGl.out (by omega) (by omega)).mono ?_
  rintro e w2 ⟨a3, m3, c3, rfl, _, hm3, hx, hb2⟩
  have HX2 := hidOf hx.tm
  have HS2 := hidOf hb2
  clear hx hb2
  go_wp2_with fail
  refine (implBoth_any _ _ m2 m1 c2 c1 g f _ (HGl.out.keep HS2.out) (HF.out.keep HS2.out) (by omega) (by omega)).mono ?_
  rintro e w3 ⟨a4, m4, c4, rfl, _, hm4, hy, hb3⟩
  have HY3 := hidOf hy.tm
  have HX3 := hidOf (HX2.out.keep hb3)
  have HS3 := hidOf (bl_trans HS2.out hb3)
  clear hy hb3 HX2 HS2
  go_wp2_with fail
  refine (specBoth_any _ _ m1 m2 c1 c2 f g _ (HF.out.keep HS3.out) (HGl.out.keep HS3.out) (by omega) (by omega)).mono ?_
  rintro e w4 ⟨a5, m5, c5, rfl, _, hm5, _, hb4⟩
  have HY4 := hidOf (HY3.out.keep hb4)
  have HX4 := hidOf (HX3.out.keep hb4)
  have HS4 := hidOf (bl_trans HS3.out hb4)
  have HF4 := hidOf (HF.out.keep HS4.out)
  have HG4 := hidOf (HGl.out.keep HS4.out)
  have HB4 := hidOf (bl_trans HB1.out HS4.out)
  have HBy := hidOf (bytes_below HB.out HB4.out)
  have HGo := hidOf (HG.out.keep HB4.out)
  clear hb4 HY3 HX3 HS3 HS4 HF HGl HB1 HB HG
  rw [both_sym (f := g) (g := f)]
  cases hr : bothM f g with
  | none =>
    simp only [Option.isSome_none]
    have ex : (!(false == false)) = false := rfl
    go_wp2_with fail
    go_loop [11] (fun i => i = .int .i64 0) (fun _ => 0)
    case atStart => rfl
    case round =>
      subst hrel
      go_wp2
      go_ret
      exact ⟨rfl, HB4.out⟩
  | some h =>
    have hr' : ∃ h', bothM g f = some h' := by
      have e := both_sym (f := f) (g := g)
      rw [hr] at e
      exact Option.isSome_iff_exists.1 e.symm
    obtain ⟨h', hr'⟩ := hr'
    rw [hr] at HX4
    rw [hr'] at HY4
    simp only [Option.isSome_some, Option.getD_some] at HX4 HY4 ⊢
    have HP := hidOf (fun k n s => pass_both hr k n s)
    have HP' := hidOf (fun k n s => (pass_both hr' k n s).trans (Bool.and_comm _ _))
    clear hr hr'
    go_wp2_with fail
    go_loopw [11] (fun i wr => ∃ j : Nat, j ≤ 6 ∧ i = .int .i64 j ∧ Below w4.heap.size w4 wr) (fun i _ => 6 - (intOf i).toNat)
    case atStart => exact ⟨0, by omega, rfl, Below.refl _ _⟩
    case round =>
      rename_i wr
      obtain ⟨j, hj, rfl, hbr⟩ := hrel
      have HBr := hidOf hbr
      clear hbr
      by_cases hlt : j < 6
      · have hji : (j : Int) < 6 := by omega
        go_wp2_with fail
        refine (atN_any _ a len cap j _ (bytes_below HBy.out HBr.out) (by omega)).mono ?_
        rintro e w5 ⟨y, rfl, y0, y1, rfl⟩
        go_wp2_with fail
        refine (numMsg_any _ _).mono ?_
        rintro e w6 ⟨rfl, hb6⟩
        have HB6 := hidOf (bl_trans HBr.out hb6)
        clear hb6 HBr
        by_cases hodd : j % 2 = 1
        · have e1 : ((j : Int) % 2 == 1) = true := by simp; omega
          have HMo := hidOf (Box3.new w6 (.int .i64 1) (.int .i64 (y - 20)) (.string ⟨#[]⟩) 26)
          go_wp2_with fail
          refine (atN_any _ a len cap j _ (bytes_below HBy.out (bl_alloc (bl_alloc HB6.out _) _)) (by omega)).mono ?_
          rintro e w7 ⟨y2, rfl, z0, z1, hw7⟩
          obtain ⟨yy, rfl⟩ : ∃ yy : Nat, y2 = yy := ⟨y2.toNat, by omega⟩
          obtain ⟨v, hv, hvs⟩ := strs5 (w6.alloc (.cells #[.int .i64 1, .int .i64 (y - 20), .string ⟨#[]⟩] 26)) (yy % 5) (by omega)
          have HM7 := HMo.out.alloc (.cells #[.string ⟨#[]⟩, .string ⟨#[97, 98]⟩, .string ⟨#[104, 101, 108, 108, 111]⟩, .string ⟨#[122, 122]⟩, .string ⟨#[98]⟩] 9)
          have B7 := bl_alloc (bl_alloc HB6.out (.cells #[.int .i64 1, .int .i64 (y - 20), .string ⟨#[]⟩] 26)) (.cells #[.string ⟨#[]⟩, .string ⟨#[97, 98]⟩, .string ⟨#[104, 101, 108, 108, 111]⟩, .string ⟨#[122, 122]⟩, .string ⟨#[98]⟩] 9)
          rw [← hw7] at hv HM7 B7
          simp only [World.size_alloc] at hv
          have hw46 := HB6.out.size
          have HMb := hidOf (((HM7.set0e (.int .i64 2)).set1e (.int .i64 0)).set2e (.string v))
          have HBU := hidOf (((B7.setCell (p := ⟨w6.heap.size, 0, none⟩) hw46 (.int .i64 2)).setCell (p := ⟨w6.heap.size, 1, none⟩) hw46 (.int .i64 0)).setCell (p := ⟨w6.heap.size, 2, none⟩) hw46 (.string v))
          have hsm : v.size ≤ maxLen := by unfold maxLen; omega
          obtain ⟨_, p0, p1, p2, pf⟩ := id HM7
          have hx5 : (0 : Int) ≤ (yy : Int) % 5 ∧ (yy : Int) % 5 < 5 := by omega
          have hx6 : ((yy : Int) % 5).toNat = yy % 5 := by omega
          clear HM7 B7 hw7 HB6 HMo
          go_wp2_with fail
          clear p0 p1 p2 pf hv
          cases h1 : passM f 2 0 v
          · refine (specPasses_any _ m1 c1 f 2 0 v _ (HF4.out.keep HBU.out) (by omega) hsm).mono ?_
            rintro e u1 ⟨rfl, hbu1⟩
            have HM1 := hidOf (HMb.out.keep hbu1)
            have HU1 := hidOf (bl_trans HBU.out hbu1)
            rw [h1]
            have H1 := hidOf h1
            clear hbu1 HMb HBU h1
            obtain ⟨_, p0, p1, p2, pf⟩ := id HM1.out
            go_wp2_with fail
            refine (implPasses_any _ m3 c3 h 2 0 v _ (HX4.out.keep HU1.out) (by omega) hsm (HGo.out.keep HU1.out)).mono ?_
            rintro e u3 ⟨rfl, hbu3⟩
            rw [HP.out, H1.out, Bool.false_and]
            have HM3 := hidOf (HM1.out.keep hbu3)
            have HU3 := hidOf (bl_trans HU1.out hbu3)
            clear hbu3 HM1 HU1 p0 p1 p2 pf
            obtain ⟨_, p0, p1, p2, pf⟩ := id HM3.out
            go_wp2_with fail
            refine (implPasses_any _ m4 c4 h' 2 0 v _ (HY4.out.keep HU3.out) (by omega) hsm (HGo.out.keep HU3.out)).mono ?_
            rintro e u4 ⟨rfl, hbu4⟩
            rw [HP'.out, H1.out, Bool.false_and]
            have HU4 := hidOf (bl_trans HU3.out hbu4)
            clear hbu4 HM3 HU3 p0 p1 p2 pf
            go_wp2
            go_roundw
            all_goals first
              | exact ⟨j + 1, by omega, by go_num, HU4.out⟩
              | (simp [intOf]; omega)
          · refine (specPasses_any _ m1 c1 f 2 0 v _ (HF4.out.keep HBU.out) (by omega) hsm).mono ?_
            rintro e u1 ⟨rfl, hbu1⟩
            have HM1 := hidOf (HMb.out.keep hbu1)
            have HU1 := hidOf (bl_trans HBU.out hbu1)
            rw [h1]
            have H1 := hidOf h1
            clear hbu1 HMb HBU h1
            obtain ⟨_, p0, p1, p2, pf⟩ := id HM1.out
            cases h2 : passM g 2 0 v
            all_goals
              go_wp2_with fail
              refine (specPasses_any _ m2 c2 g 2 0 v _ (HG4.out.keep HU1.out) (by omega) hsm).mono ?_
              rintro e u2 ⟨rfl, hbu2⟩
              rw [h2]
              have H2 := hidOf h2
              have HM2 := hidOf (HM1.out.keep hbu2)
              have HU2 := hidOf (bl_trans HU1.out hbu2)
              clear hbu2 HM1 HU1 h2 p0 p1 p2 pf
              obtain ⟨_, p0, p1, p2, pf⟩ := id HM2.out
              go_wp2_with fail
              refine (implPasses_any _ m3 c3 h 2 0 v _ (HX4.out.keep HU2.out) (by omega) hsm (HGo.out.keep HU2.out)).mono ?_
              rintro e u3 ⟨rfl, hbu3⟩
              rw [HP.out, H1.out, H2.out]
              have HM3 := hidOf (HM2.out.keep hbu3)
              have HU3 := hidOf (bl_trans HU2.out hbu3)
              clear hbu3 HM2 HU2 p0 p1 p2 pf
              obtain ⟨_, p0, p1, p2, pf⟩ := id HM3.out
              go_wp2_with fail
              refine (implPasses_any _ m4 c4 h' 2 0 v _ (HY4.out.keep HU3.out) (by omega) hsm (HGo.out.keep HU3.out)).mono ?_
              rintro e u4 ⟨rfl, hbu4⟩
              rw [HP'.out, H1.out, H2.out]
              have HU4 := hidOf (bl_trans HU3.out hbu4)
              clear hbu4 HM3 HU3 p0 p1 p2 pf
              go_wp2
              go_roundw
              all_goals first
                | exact ⟨j + 1, by omega, by go_num, HU4.out⟩
                | (simp [intOf]; omega)
        · have e1 : ((j : Int) % 2 == 1) = false := by simp; omega
          have HMb := hidOf (Box3.new w6 (.int .i64 1) (.int .i64 (y - 20)) (.string ⟨#[]⟩) 26)
          have HBU := hidOf (bl_alloc HB6.out (.cells #[.int .i64 1, .int .i64 (y - 20), .string ⟨#[]⟩] 26))
          have hsm : (⟨#[]⟩ : ByteArray).size ≤ maxLen := Nat.zero_le _
          clear HB6
          go_wp2_with fail
          cases h1 : passM f 1 (y - 20) ⟨#[]⟩
          · refine (specPasses_any _ m1 c1 f 1 (y - 20) ⟨#[]⟩ _ (HF4.out.keep HBU.out) (by omega) hsm).mono ?_
            rintro e u1 ⟨rfl, hbu1⟩
            have HM1 := hidOf (HMb.out.keep hbu1)
            have HU1 := hidOf (bl_trans HBU.out hbu1)
            rw [h1]
            have H1 := hidOf h1
            clear hbu1 HMb HBU h1
            obtain ⟨_, p0, p1, p2, pf⟩ := id HM1.out
            go_wp2_with fail
            refine (implPasses_any _ m3 c3 h 1 (y - 20) ⟨#[]⟩ _ (HX4.out.keep HU1.out) (by omega) hsm (HGo.out.keep HU1.out)).mono ?_
            rintro e u3 ⟨rfl, hbu3⟩
            rw [HP.out, H1.out, Bool.false_and]
            have HM3 := hidOf (HM1.out.keep hbu3)
            have HU3 := hidOf (bl_trans HU1.out hbu3)
            clear hbu3 HM1 HU1 p0 p1 p2 pf
            obtain ⟨_, p0, p1, p2, pf⟩ := id HM3.out
            go_wp2_with fail
            refine (implPasses_any _ m4 c4 h' 1 (y - 20) ⟨#[]⟩ _ (HY4.out.keep HU3.out) (by omega) hsm (HGo.out.keep HU3.out)).mono ?_
            rintro e u4 ⟨rfl, hbu4⟩
            rw [HP'.out, H1.out, Bool.false_and]
            have HU4 := hidOf (bl_trans HU3.out hbu4)
            clear hbu4 HM3 HU3 p0 p1 p2 pf
            go_wp2
            go_roundw
            all_goals first
              | exact ⟨j + 1, by omega, by go_num, HU4.out⟩
              | (simp [intOf]; omega)
          · refine (specPasses_any _ m1 c1 f 1 (y - 20) ⟨#[]⟩ _ (HF4.out.keep HBU.out) (by omega) hsm).mono ?_
            rintro e u1 ⟨rfl, hbu1⟩
            have HM1 := hidOf (HMb.out.keep hbu1)
            have HU1 := hidOf (bl_trans HBU.out hbu1)
            rw [h1]
            have H1 := hidOf h1
            clear hbu1 HMb HBU h1
            obtain ⟨_, p0, p1, p2, pf⟩ := id HM1.out
            cases h2 : passM g 1 (y - 20) ⟨#[]⟩
            all_goals
              go_wp2_with fail
              refine (specPasses_any _ m2 c2 g 1 (y - 20) ⟨#[]⟩ _ (HG4.out.keep HU1.out) (by omega) hsm).mono ?_
              rintro e u2 ⟨rfl, hbu2⟩
              rw [h2]
              have H2 := hidOf h2
              have HM2 := hidOf (HM1.out.keep hbu2)
              have HU2 := hidOf (bl_trans HU1.out hbu2)
              clear hbu2 HM1 HU1 h2 p0 p1 p2 pf
              obtain ⟨_, p0, p1, p2, pf⟩ := id HM2.out
              go_wp2_with fail
              refine (implPasses_any _ m3 c3 h 1 (y - 20) ⟨#[]⟩ _ (HX4.out.keep HU2.out) (by omega) hsm (HGo.out.keep HU2.out)).mono ?_
              rintro e u3 ⟨rfl, hbu3⟩
              rw [HP.out, H1.out, H2.out]
              have HM3 := hidOf (HM2.out.keep hbu3)
              have HU3 := hidOf (bl_trans HU2.out hbu3)
              clear hbu3 HM2 HU2 p0 p1 p2 pf
              obtain ⟨_, p0, p1, p2, pf⟩ := id HM3.out
              go_wp2_with fail
              refine (implPasses_any _ m4 c4 h' 1 (y - 20) ⟨#[]⟩ _ (HY4.out.keep HU3.out) (by omega) hsm (HGo.out.keep HU3.out)).mono ?_
              rintro e u4 ⟨rfl, hbu4⟩
              rw [HP'.out, H1.out, H2.out]
              have HU4 := hidOf (bl_trans HU3.out hbu4)
              clear hbu4 HM3 HU3 p0 p1 p2 pf
              go_wp2
              go_roundw
              all_goals first
                | exact ⟨j + 1, by omega, by go_num, HU4.out⟩
                | (simp [intOf]; omega)
      · go_wp2
        go_ret
        exact ⟨rfl, bl_trans HB4.out HBr.out⟩
theorem lawBoth_any (a : Option Addr) (len cap : Nat) (w : World) (hB : len ≤ 1048576 → Bytes w.heap.size w a len cap) (hG : GOk w) :
    Calls Try.prog 4 #[.slice a len cap] w fun e w' => e = .returned (.bool true) ∧ Below w.heap.size w w' := by
  by_cases hl : len ≤ 1048576
  · exact both_small a len cap w (hB hl) hl hG
  · exact both_big a len cap w (by omega)
end Go.Proofs.Ytedaleonmcllkaa
