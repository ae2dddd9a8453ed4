/-
  The specification's rings: what the walk of RingOk holds on to
  Rings: plain mathematics
  Walks of the functions that tell a right message
  A step that only reads is taken first, in a region whose order is draw
-/
import Derived.Test.YtdboaoejlkkoeaaGreatZPo2
import Derived.Deep.RegionWith
import Derived.RowKit3
namespace Go.Proofs.YtdboaoejlkkoeaaGreat
open Go.RowKit Pl Il
structure RHold (w : World) (M : Rm) (v : Rv) (u : World) : Prop where
  box : BoxL w.heap.size (rC M v) u
  rin : RIn u M v
  below : Below w.heap.size w u
theorem RHold.keep {w : World} {M : Rm} {v : Rv} {u u' : World} (h : RHold w M v u) (hb : Below u.heap.size u u') : RHold w M v u' := ⟨h.box.keep hb, h.rin.keep hb, bl_trans h.below hb⟩
abbrev RSub (w : World) (M : Rm) (v : Rv) (sa : Option Addr) (b o q : Nat) (x y : Sa) (u : World) : Prop :=
  u.cell? ⟨w.heap.size, 0, none⟩ = some (.int .i64 v.cp) ∧ u.cell? ⟨w.heap.size, 1, none⟩ = some (.int .i64 v.se) ∧ u.cell? ⟨w.heap.size, 2, none⟩ = some (.slice M.ia M.i M.ic) ∧ u.cell? ⟨w.heap.size, 3, none⟩ = some (.int .i64 v.nx) ∧ u.cell? ⟨w.heap.size, 4, none⟩ = some (.slice sa M.s M.sc) ∧ u.cell? ⟨w.heap.size, 5, none⟩ = some (.slice M.la M.l M.lc) ∧ u.cell? ⟨w.heap.size, 6, none⟩ = some (.slice M.ga M.g M.gc) ∧ u.cell? ⟨w.heap.size, 7, none⟩ = some (.bool v.cl) ∧ u.cell? ⟨b, o, none⟩ = some (.int .i64 x.s.id) ∧ u.cell? ⟨b, o + 1, none⟩ = some (.int .i64 x.s.st) ∧ u.cell? ⟨b, o + 2, none⟩ = some (.int .i64 x.s.cu) ∧ u.cell? ⟨b, o + 3, none⟩ = some (.int .i64 x.s.gt) ∧ u.cell? ⟨b, o + 4, none⟩ = some (.int .i64 x.s.lo) ∧ u.cell? ⟨b, o + 5, none⟩ = some (.int .i64 x.s.pa) ∧ u.cell? ⟨b, o + 6, none⟩ = some (.slice x.a x.n x.c) ∧ u.cell? ⟨b, q, none⟩ = some (.int .i64 y.s.id) ∧ RHold w M v u
theorem RSub.hold {w : World} {M : Rm} {v : Rv} {sa : Option Addr} {b o q : Nat} {x y : Sa} {u : World} (h : RSub w M v sa b o q x y u) : RHold w M v u := h.2.2.2.2.2.2.2.2.2.2.2.2.2.2.2.2
theorem RSub.keep {w : World} {M : Rm} {v : Rv} {sa : Option Addr} {b o q : Nat} {x y : Sa} {u u' : World} (h : RSub w M v sa b o q x y u) (hb : Below u.heap.size u u') : RSub w M v sa b o q x y u' := by
  obtain ⟨h0, h1, h2, h3, h4, h5, h6, h7, h8, h9, h10, h11, h12, h13, h14, h15, hh⟩ := h
  exact ⟨cellK h0 hb, cellK h1 hb, cellK h2 hb, cellK h3 hb, cellK h4 hb, cellK h5 hb, cellK h6 hb, cellK h7 hb, cellK h8 hb, cellK h9 hb, cellK h10 hb, cellK h11 hb, cellK h12 hb, cellK h13 hb, cellK h14 hb, cellK h15 hb, hh.keep hb⟩
theorem RSub.drew {w : World} {M : Rm} {v : Rv} {sa : Option Addr} {b o q : Nat} {x y : Sa} {u : World} (h : RSub w M v sa b o q x y u) : RSub w M v sa b o q x y u.drew := h.keep (Below.refl _ _).drew
theorem RHold.sub {w : World} {M : Rm} {v : Rv} {sa : Option Addr} {b o q : Nat} {x y : Sa} {u : World} (h : RHold w M v u) (ea : M.sa = sa) (hx : SCell u b o x) (hy : u.cell? ⟨b, q, none⟩ = some (.int .i64 y.s.id)) : RSub w M v sa b o q x y u :=
  ⟨h.box.cs 0 (by simp), h.box.cs 1 (by simp), h.box.cs 2 (by simp), h.box.cs 3 (by simp), by rw [← ea]; exact h.box.cs 4 (by simp), h.box.cs 5 (by simp), h.box.cs 6 (by simp), h.box.cs 7 (by simp), hx.c0, hx.c1, hx.c2, hx.c3, hx.c4, hx.c5, hx.c6, hy, h⟩
abbrev RCel (w : World) (M : Rm) (v : Rv) (u : World) : Prop := u.cell? ⟨w.heap.size, 0, none⟩ = some (.int .i64 v.cp) ∧ u.cell? ⟨w.heap.size, 1, none⟩ = some (.int .i64 v.se) ∧ u.cell? ⟨w.heap.size, 2, none⟩ = some (.slice M.ia M.i M.ic) ∧ u.cell? ⟨w.heap.size, 3, none⟩ = some (.int .i64 v.nx) ∧ u.cell? ⟨w.heap.size, 4, none⟩ = some (.slice M.sa M.s M.sc) ∧ u.cell? ⟨w.heap.size, 5, none⟩ = some (.slice M.la M.l M.lc) ∧ u.cell? ⟨w.heap.size, 6, none⟩ = some (.slice M.ga M.g M.gc) ∧ u.cell? ⟨w.heap.size, 7, none⟩ = some (.bool v.cl) ∧ RHold w M v u
theorem RCel.hold {w : World} {M : Rm} {v : Rv} {u : World} (h : RCel w M v u) : RHold w M v u := h.2.2.2.2.2.2.2.2
theorem RHold.cel {w : World} {M : Rm} {v : Rv} {u : World} (h : RHold w M v u) : RCel w M v u := ⟨h.box.cs 0 (by simp), h.box.cs 1 (by simp), h.box.cs 2 (by simp), h.box.cs 3 (by simp), h.box.cs 4 (by simp), h.box.cs 5 (by simp), h.box.cs 6 (by simp), h.box.cs 7 (by simp), h⟩
theorem RCel.keep {w : World} {M : Rm} {v : Rv} {u u' : World} (h : RCel w M v u) (hb : Below u.heap.size u u') : RCel w M v u' := (h.hold.keep hb).cel
theorem RCel.drew {w : World} {M : Rm} {v : Rv} {u : World} (h : RCel w M v u) : RCel w M v u.drew := h.keep (Below.refl _ _).drew
abbrev RCelC (w : World) (M : Rm) (v : Rv) (c : Bool) (u : World) : Prop := u.cell? ⟨w.heap.size, 0, none⟩ = some (.int .i64 v.cp) ∧ u.cell? ⟨w.heap.size, 1, none⟩ = some (.int .i64 v.se) ∧ u.cell? ⟨w.heap.size, 2, none⟩ = some (.slice M.ia M.i M.ic) ∧ u.cell? ⟨w.heap.size, 3, none⟩ = some (.int .i64 v.nx) ∧ u.cell? ⟨w.heap.size, 4, none⟩ = some (.slice M.sa M.s M.sc) ∧ u.cell? ⟨w.heap.size, 5, none⟩ = some (.slice M.la M.l M.lc) ∧ u.cell? ⟨w.heap.size, 6, none⟩ = some (.slice M.ga M.g M.gc) ∧ u.cell? ⟨w.heap.size, 7, none⟩ = some (.bool c) ∧ RHold w M v u ∧ Hid (v.cl = c)
theorem RCelC.hold {w : World} {M : Rm} {v : Rv} {c : Bool} {u : World} (h : RCelC w M v c u) : RHold w M v u := h.2.2.2.2.2.2.2.2.1
theorem RCel.flag {w : World} {M : Rm} {v : Rv} {c : Bool} {u : World} (h : RCel w M v u) (hc : v.cl = c) : RCelC w M v c u := by
  subst hc
  obtain ⟨h0, h1, h2, h3, h4, h5, h6, h7, hh⟩ := h
  exact ⟨h0, h1, h2, h3, h4, h5, h6, h7, hh, rfl⟩
theorem RCelC.keep {w : World} {M : Rm} {v : Rv} {c : Bool} {u u' : World} (h : RCelC w M v c u) (hb : Below u.heap.size u u') : RCelC w M v c u' := (h.hold.keep hb).cel.flag (h.2.2.2.2.2.2.2.2.2).out
theorem RCelC.drew {w : World} {M : Rm} {v : Rv} {c : Bool} {u : World} (h : RCelC w M v c u) : RCelC w M v c u.drew := h.keep (Below.refl _ _).drew
def lenR (v : Rv) : Bool := decide ((v.it.length : Int) = v.se - oldR v) && (decide (v.ln.length + v.gs.length ≤ 12) && !(v.cl && decide (0 < v.ln.length)))
def headR (v : Rv) : Bool := decide (1 ≤ v.cp ∧ v.cp ≤ 16) && decide (0 ≤ v.se ∧ v.se ≤ 1000000000) && decide (0 ≤ v.nx ∧ v.nx ≤ 1000000000) && decide (v.sb.length ≤ 12) && decide (v.it.length ≤ 16)
def subsTo (v : Rv) (k : Nat) : Bool := (List.range k).all fun i => subR v (v.sb.getD i ⟨0, 0, 0, 0, 0, 0, []⟩) && (decide (i = 0) || decide ((v.sb.getD (i - 1) ⟨0, 0, 0, 0, 0, 0, []⟩).id < (v.sb.getD i ⟨0, 0, 0, 0, 0, 0, []⟩).id))
theorem subsTo_succ (v : Rv) (k : Nat) : subsTo v (k + 1) = (subsTo v k && (subR v (v.sb.getD k ⟨0, 0, 0, 0, 0, 0, []⟩) && (decide (k = 0) || decide ((v.sb.getD (k - 1) ⟨0, 0, 0, 0, 0, 0, []⟩).id < (v.sb.getD k ⟨0, 0, 0, 0, 0, 0, []⟩).id)))) := by
  unfold subsTo
  rw [List.range_succ, List.all_append]
  simp
theorem subsTo_bad {v : Rv} {k n : Nat} (h : subsTo v k = false) (hk : k ≤ n) : subsTo v n = false := by
  unfold subsTo at *
  rw [List.all_eq_false] at *
  obtain ⟨i, hi, hb⟩ := h
  exact ⟨i, by simp at hi ⊢; omega, hb⟩
theorem sb_get {M : Rm} {v : Rv} (h : svs M.xs = v.sb) {k : Nat} (hk : k < M.xs.length) : v.sb.getD k ⟨0, 0, 0, 0, 0, 0, []⟩ = (sg M.xs k).s := by
  rw [← h, List.getD_eq_getElem?_getD, List.getElem?_eq_getElem (by simpa [svs] using hk), Option.getD_some, sg_svs hk]
open Go.RowKit Pl Il
def msgsR (v : Rv) : Bool := v.it.all fun m => okB m.1 m.2.1 m.2.2
def cuR (sb : List Sb) (k : Int) : Int := (sb.getD k.toNat ⟨0, 0, 0, 0, 0, 0, []⟩).cu
def waitAt (v : Rv) (i : Nat) : Bool :=
  decide (0 ≤ atR v.sb ((v.ln ++ v.gs).getD i 0)) && (!hasL ((v.ln ++ v.gs).take i) ((v.ln ++ v.gs).getD i 0) && (decide (v.ln.length ≤ i) || decide (cuR v.sb (atR v.sb ((v.ln ++ v.gs).getD i 0)) = v.se)))
def waitTo (v : Rv) (k : Nat) : Bool := (List.range k).all (waitAt v)
theorem waitTo_succ (v : Rv) (k : Nat) : waitTo v (k + 1) = (waitTo v k && waitAt v k) := by
  unfold waitTo
  rw [List.range_succ, List.all_append]
  simp
theorem waitTo_bad {v : Rv} {k n : Nat} (h : waitAt v k = false) (hk : k < n) : waitTo v n = false := by
  unfold waitTo
  rw [List.all_eq_false]
  exact ⟨k, List.mem_range.2 hk, by simp [h]⟩
def restR (v : Rv) : Bool := msgsR v && waitTo v (v.ln.length + v.gs.length)
def okR (f : Rv → Bool) (v : Rv) : Bool := headR v && (subsTo v v.sb.length && (lenR v && f v))
def subI (se : Int) (s : Sb) : Bool := decide (0 ≤ s.st ∧ s.st ≤ s.cu ∧ s.cu ≤ se) && (decide (0 ≤ s.gt ∧ s.gt ≤ s.cu - s.st) && (decide (0 ≤ s.lo ∧ s.lo ≤ s.cu - s.st) && (decide (0 ≤ s.pa ∧ s.pa ≤ s.cu - s.st) && (decide (s.gt + s.lo + s.pa = s.cu - s.st) && okF s.fl))))
def leastAt (sb : List Sb) (k : Nat) : Int := if k = 0 then 0 else (sb.getD (k - 1) ⟨0, 0, 0, 0, 0, 0, []⟩).id + 1
def subsIAt (v : Rv) (i : Nat) : Bool := decide (leastAt v.sb i ≤ (v.sb.getD i ⟨0, 0, 0, 0, 0, 0, []⟩).id ∧ (v.sb.getD i ⟨0, 0, 0, 0, 0, 0, []⟩).id < v.nx) && subI v.se (v.sb.getD i ⟨0, 0, 0, 0, 0, 0, []⟩)
def subsITo (v : Rv) (k : Nat) : Bool := (List.range k).all (subsIAt v)
theorem subsITo_succ (v : Rv) (k : Nat) : subsITo v (k + 1) = (subsITo v k && subsIAt v k) := by
  unfold subsITo
  rw [List.range_succ, List.all_append]
  simp
theorem subsITo_bad {v : Rv} {k n : Nat} (h : subsIAt v k = false) (hk : k < n) : subsITo v n = false := by
  unfold subsITo
  rw [List.all_eq_false]
  exact ⟨k, List.mem_range.2 hk, by simp [h]⟩
def headI (v : Rv) : Bool := decide ((1 ≤ v.cp ∧ v.cp ≤ 16) ∧ (0 ≤ v.se ∧ v.se ≤ 1000000000) ∧ (0 ≤ v.nx ∧ v.nx ≤ 1000000000))
def subsI (v : Rv) : Bool := decide (v.sb.length ≤ 12) && subsITo v v.sb.length
def itemsI (v : Rv) : Bool := decide ((v.it.length : Int) = v.se - oldR v) && msgsR v
def lineI (v : Rv) (y : Int) : Bool := decide (0 ≤ atR v.sb y) && decide (cuR v.sb (atR v.sb y) = v.se)
def grantI (v : Rv) (y : Int) : Bool := decide (0 ≤ atR v.sb y)
def waitI (v : Rv) : Bool := !(v.cl && decide (0 < v.ln.length)) && (v.ln.all (lineI v) && (v.gs.all (grantI v) && decide (dist (v.ln ++ v.gs) = (v.ln ++ v.gs).length)))
def okI (v : Rv) : Bool := headI v && (subsI v && (itemsI v && waitI v))
theorem subsI_eq (v : Rv) : ∀ k, subsITo v k = subsTo v k
  | 0 => rfl
  | k + 1 => by
    rw [subsITo_succ, subsTo_succ, subsI_eq v k]
    cases hs : subsTo v k
    · rfl
    rw [Bool.true_and, Bool.true_and]
    have hp : k = 0 ∨ 0 ≤ (v.sb.getD (k - 1) ⟨0, 0, 0, 0, 0, 0, []⟩).id := by
      rcases Nat.eq_zero_or_pos k with h | h
      · exact .inl h
      · right
        obtain ⟨j, rfl⟩ : ∃ j, k = j + 1 := ⟨k - 1, by omega⟩
        rw [subsTo_succ] at hs
        simp only [Bool.and_eq_true, subR, subHead, decide_eq_true_eq] at hs
        have := hs.2.1.1.1.1.1.1.1.1.1
        simpa using this
    rw [Bool.eq_iff_iff]
    simp only [subsIAt, subI, subR, subHead, subSums, Bool.and_eq_true, Bool.or_eq_true, decide_eq_true_eq]
    unfold leastAt
    rcases Nat.eq_zero_or_pos k with h | h
    · subst h
      simp only [if_true, true_or, and_true]
      constructor
      · rintro ⟨⟨a, b⟩, ⟨c, d, e⟩, ⟨f, g⟩, ⟨i, j⟩, ⟨l, m⟩, n, o⟩
        exact ⟨⟨⟨⟨⟨⟨⟨⟨a, by omega⟩, c⟩, d⟩, e⟩, f⟩, i⟩, l⟩, ⟨⟨⟨g, j⟩, m⟩, n⟩, o⟩
      · rintro ⟨⟨⟨⟨⟨⟨⟨⟨a, b⟩, c⟩, d⟩, e⟩, f⟩, i⟩, l⟩, ⟨⟨⟨g, j⟩, m⟩, n⟩, o⟩
        exact ⟨⟨a, by omega⟩, ⟨c, d, e⟩, ⟨f, g⟩, ⟨i, j⟩, ⟨l, m⟩, n, o⟩
    · have hk : ¬ k = 0 := by omega
      have hp' := hp.resolve_left hk
      simp only [hk, if_false, false_or]
      constructor
      · rintro ⟨⟨a, b⟩, ⟨c, d, e⟩, ⟨f, g⟩, ⟨i, j⟩, ⟨l, m⟩, n, o⟩
        exact ⟨⟨⟨⟨⟨⟨⟨⟨⟨by omega, by omega⟩, c⟩, d⟩, e⟩, f⟩, i⟩, l⟩, ⟨⟨⟨g, j⟩, m⟩, n⟩, o⟩, by omega⟩
      · rintro ⟨⟨⟨⟨⟨⟨⟨⟨⟨a, b⟩, c⟩, d⟩, e⟩, f⟩, i⟩, l⟩, ⟨⟨⟨g, j⟩, m⟩, n⟩, o⟩, q⟩
        exact ⟨⟨by omega, by omega⟩, ⟨c, d, e⟩, ⟨f, g⟩, ⟨i, j⟩, ⟨l, m⟩, n, o⟩
theorem oldR_ge (v : Rv) : v.se - v.cp ≤ oldR v := by
  unfold oldR
  simp only
  split <;> split <;> omega
theorem atR_mem {sb : List Sb} {id : Int} (h : 0 ≤ atR sb id) : id ∈ sb.map (·.id) := by
  unfold atR at h
  cases hf : sb.findIdx? (fun s => s.id == id) with
  | none => rw [hf] at h; simp at h
  | some i =>
    rw [List.findIdx?_eq_some_iff_getElem] at hf
    obtain ⟨hi, he, _⟩ := hf
    exact List.mem_map.2 ⟨sb[i], List.getElem_mem hi, by simpa using he⟩
theorem dist_iff (xs : List Int) : dist xs = xs.length ↔ ∀ i, i < xs.length → hasL (xs.take i) (xs.getD i 0) = false := by
  constructor
  · intro h i hi
    unfold dist at h
    have := filter_len_eq (l := List.range xs.length) (by rw [h]; simp) i (List.mem_range.2 hi)
    simpa using this
  · intro h
    unfold dist
    rw [List.filter_eq_self.2 (fun i hi => by rw [h i (List.mem_range.1 hi)]; rfl)]
    simp
theorem dist_nodup {xs : List Int} (h : dist xs = xs.length) : xs.Nodup := by
  rw [List.nodup_iff_pairwise_ne, List.pairwise_iff_getElem]
  intro i j hi hj hij e
  have := (dist_iff xs).1 h j hj
  simp only [hasL, List.getD_eq_getElem?_getD, List.getElem?_eq_getElem hj, Option.getD_some, List.contains_eq_mem, decide_eq_false_iff_not] at this
  exact this (by rw [← e]; exact List.mem_take_iff_getElem.2 ⟨i, by omega, rfl⟩)
theorem few_wait {v : Rv} (hs : v.sb.length ≤ 12) (hd : dist (v.ln ++ v.gs) = (v.ln ++ v.gs).length) (h : ∀ y, y ∈ v.ln ++ v.gs → 0 ≤ atR v.sb y) : v.ln.length + v.gs.length ≤ 12 := by
  have h1 := (dist_nodup hd).length_le_of_subset (l₂ := v.sb.map (·.id)) (fun y hy => atR_mem (h y hy))
  simp only [List.length_append, List.length_map] at h1
  omega
theorem get_mem {xs : List Int} {i : Nat} (h : i < xs.length) : xs.getD i 0 ∈ xs := by
  rw [List.getD_eq_getElem?_getD, List.getElem?_eq_getElem h]
  exact List.getElem_mem h
theorem get_left {xs ys : List Int} {i : Nat} (h : i < xs.length) : (xs ++ ys).getD i 0 = xs.getD i 0 := by
  simp [List.getD_eq_getElem?_getD, List.getElem?_append_left h]
theorem get_right {xs ys : List Int} {i : Nat} (h : xs.length ≤ i) : (xs ++ ys).getD i 0 = ys.getD (i - xs.length) 0 := by
  simp [List.getD_eq_getElem?_getD, List.getElem?_append_right h]
theorem get_of {xs : List Int} {y : Int} (h : y ∈ xs) : ∃ i, i < xs.length ∧ xs.getD i 0 = y := by
  obtain ⟨i, hi, e⟩ := List.getElem_of_mem h
  exact ⟨i, hi, by rw [List.getD_eq_getElem?_getD, List.getElem?_eq_getElem hi]; exact e⟩
theorem okI_eq (v : Rv) : okI v = okR restR v := by
  rw [Bool.eq_iff_iff]
  simp only [okI, okR, headI, headR, subsI, itemsI, waitI, lenR, restR, Bool.and_eq_true, decide_eq_true_eq, subsI_eq]
  constructor
  · rintro ⟨⟨hc, hs, hn⟩, ⟨h12, hsub⟩, ⟨hlen, hmsg⟩, hcl, hln, hgs, hd⟩
    simp only [List.all_eq_true] at hln hgs
    have hat : ∀ y, y ∈ v.ln ++ v.gs → 0 ≤ atR v.sb y := fun y hy => by
      rcases List.mem_append.1 hy with hy | hy
      · have := hln y hy
        simp only [lineI, Bool.and_eq_true, decide_eq_true_eq] at this
        exact this.1
      · have := hgs y hy
        simpa [grantI] using this
    have ho := oldR_ge v
    refine ⟨⟨⟨⟨⟨hc, hs⟩, hn⟩, h12⟩, by omega⟩, hsub, ⟨hlen, few_wait h12 hd hat, hcl⟩, hmsg, ?_⟩
    unfold waitTo
    rw [List.all_eq_true]
    intro i hi
    rw [List.mem_range] at hi
    have hi2 : i < (v.ln ++ v.gs).length := by simpa using hi
    have h1 := hat _ (get_mem hi2)
    have h2 := (dist_iff _).1 hd i hi2
    simp only [waitAt, Bool.and_eq_true, Bool.or_eq_true, decide_eq_true_eq, Bool.not_eq_true']
    refine ⟨h1, h2, ?_⟩
    rcases Nat.lt_or_ge i v.ln.length with h | h
    · right
      have := hln _ (get_mem h)
      simp only [lineI, Bool.and_eq_true, decide_eq_true_eq] at this
      rw [get_left h]
      exact this.2
    · exact .inl h
  · rintro ⟨⟨⟨⟨⟨hc, hs⟩, hn⟩, h12⟩, h16⟩, hsub, ⟨hlen, hfew, hcl⟩, hmsg, hw⟩
    unfold waitTo at hw
    rw [List.all_eq_true] at hw
    have key : ∀ i, i < v.ln.length + v.gs.length → 0 ≤ atR v.sb ((v.ln ++ v.gs).getD i 0) ∧ hasL ((v.ln ++ v.gs).take i) ((v.ln ++ v.gs).getD i 0) = false ∧ (v.ln.length ≤ i ∨ cuR v.sb (atR v.sb ((v.ln ++ v.gs).getD i 0)) = v.se) := fun i hi => by
      have := hw i (List.mem_range.2 hi)
      simpa only [waitAt, Bool.and_eq_true, Bool.or_eq_true, decide_eq_true_eq, Bool.not_eq_true'] using this
    refine ⟨⟨hc, hs, hn⟩, ⟨h12, hsub⟩, ⟨hlen, hmsg⟩, hcl, ?_, ?_, ?_⟩
    · rw [List.all_eq_true]
      intro y hy
      obtain ⟨i, hi, rfl⟩ := get_of hy
      have h := key i (by omega)
      rw [get_left hi] at h
      simp only [lineI, Bool.and_eq_true, decide_eq_true_eq]
      exact ⟨h.1, h.2.2.resolve_left (by omega)⟩
    · rw [List.all_eq_true]
      intro y hy
      obtain ⟨i, hi, rfl⟩ := get_of hy
      have h := key (v.ln.length + i) (by omega)
      rw [get_right (by omega), Nat.add_sub_cancel_left] at h
      simp only [grantI, decide_eq_true_eq]
      exact h.1
    · rw [dist_iff]
      intro i hi
      exact (key i (by simpa using hi)).2.1
end Go.Proofs.YtdboaoejlkkoeaaGreat
namespace Go.Proofs.YtdboaoejlkkoeaaGreat
open Go.RowKit Pl
theorem l1Plain_any (s : ByteArray) (w : World) (hs : s.size ≤ maxLen) :
    Calls Tryz.prog 93 #[.string s] w fun e w' => e = .returned (.bool (plainB s)) ∧ w' = w := by
  unfold maxLen at hs
  go_enter Tryz.func93, Tryz.ntmps93
  go_wp2
  · go_ret
    exact ⟨ret_bool (plain_long s (by assumption)).symm, rfl⟩
  go_loop [3] (fun i => ∃ k : Nat, k ≤ s.size ∧ i = .int .i64 k ∧ plainL (s.data.toList.take k) = true) (fun i => s.size - (intOf i).toNat)
  case atStart => exact ⟨0, Nat.zero_le _, rfl, rfl⟩
  case round =>
    obtain ⟨k, hk, rfl, hp⟩ := hrel
    by_cases hlt : k < s.size
    · go_wp2
      all_goals first
        | (go_ret; exact ⟨ret_bool (plain_bad s k hlt (good_no _ (by (try simp only [beq_iff_eq] at *); omega))).symm, rfl⟩)
        | (go_round
           case rel => exact ⟨k + 1, by omega, by go_num, plain_step s k hlt hp (good_yes _ (by omega) (by omega) (by (try simp only [beq_eq_false_iff_ne] at *); omega))⟩
           case measure => simp [intOf]; omega)
    · go_wp2
      go_ret
      exact ⟨ret_bool (plain_all s k (by omega) (by omega) hp).symm, rfl⟩
theorem right_text (s : ByteArray) (w : World) (hs : s.size ≤ maxLen) :
    Calls Tryz.prog 238 #[.string s] w fun e w' => e = .returned (.bool (plainB s)) ∧ w' = w := by
  unfold maxLen at hs
  go_enter Tryz.func238, Tryz.ntmps238
  go_wp2
  · go_ret
    exact ⟨ret_bool (plain_long s (by assumption)).symm, rfl⟩
  go_loop [3] (fun i => ∃ k : Nat, k ≤ s.size ∧ i = .int .i64 k ∧ plainL (s.data.toList.take k) = true) (fun i => s.size - (intOf i).toNat)
  case atStart => exact ⟨0, Nat.zero_le _, rfl, rfl⟩
  case round =>
    obtain ⟨k, hk, rfl, hp⟩ := hrel
    by_cases hlt : k < s.size
    · go_wp2
      all_goals first
        | (go_ret; exact ⟨ret_bool (plain_bad s k hlt (good_no _ (by (try simp only [beq_iff_eq] at *); omega))).symm, rfl⟩)
        | (go_round
           case rel => exact ⟨k + 1, by omega, by go_num, plain_step s k hlt hp (good_yes _ (by omega) (by omega) (by (try simp only [beq_eq_false_iff_ne] at *); omega))⟩
           case measure => simp [intOf]; omega)
    · go_wp2
      go_ret
      exact ⟨ret_bool (plain_all s k (by omega) (by omega) hp).symm, rfl⟩
theorem right_num (n : Int) (w : World) :
    Calls Tryz.prog 235 #[.int .i64 n] w fun e w' => e = .returned (.bool (okNum n)) ∧ w' = w := by
  go_enter Tryz.func235, Tryz.ntmps235
  go_wp2
  all_goals go_ret
  all_goals (refine ⟨ret_bool ?_, rfl⟩; simp [okNum]; try omega)
theorem l1In_any (n a b : Int) (w : World) :
    Calls Tryz.prog 89 #[.int .i64 n, .int .i64 a, .int .i64 b] w fun e w' => e = .returned (.bool (decide (a ≤ n) && decide (n ≤ b))) ∧ w' = w := by
  go_enter Tryz.func89, Tryz.ntmps89
  go_wp2
  all_goals go_ret
  all_goals (refine ⟨ret_bool ?_, rfl⟩; simp; try omega)
theorem msg_num (n : Int) (w : World) :
    Calls Tryz.prog 234 #[.int .i64 n] w fun e w' => e = .returned (.agg #[.int .i64 1, .int .i64 n, .string ⟨#[]⟩]) ∧ w' = w.alloc (.cells #[.int .i64 1, .int .i64 n, .string ⟨#[]⟩] 30) := by
  go_enter Tryz.func234, Tryz.ntmps234
  go_wp2
  refine bodyPost_ret (v := .agg #[.int .i64 1, .int .i64 n, .string ⟨#[]⟩]) (by simp [results, Tryz.results234, go_sem]) rfl ⟨rfl, ?_⟩
  rfl
theorem msg_text (s : ByteArray) (w : World) :
    Calls Tryz.prog 237 #[.string s] w fun e w' => e = .returned (.agg #[.int .i64 2, .int .i64 0, .string s]) ∧ w' = w.alloc (.cells #[.int .i64 2, .int .i64 0, .string s] 30) := by
  go_enter Tryz.func237, Tryz.ntmps237
  go_wp2
  refine bodyPost_ret (v := .agg #[.int .i64 2, .int .i64 0, .string s]) (by simp [results, Tryz.results237, go_sem]) rfl ⟨rfl, ?_⟩
  rfl
theorem specMsgOk_any (k n : Int) (s : ByteArray) (w : World) (hs : s.size ≤ maxLen) :
    Calls Tryz.prog 25 #[.agg #[.int .i64 k, .int .i64 n, .string s]] w fun e w' => e = .returned (.bool (okB k n s)) ∧ Below w.heap.size w w' := by
  go_enter Tryz.func25, Tryz.ntmps25
  go_wp2_with (first | (go_at_call 89; refine (l1In_any _ _ _ _).mono ?_; rintro e w' ⟨rfl, rfl⟩) | (go_at_call 93; refine (l1Plain_any _ _ hs).mono ?_; rintro e w' ⟨rfl, rfl⟩))
  · go_ret
    exact ⟨ret_bool (ok_num (by assumption) (by assumption)).symm, bl_alloc (Below.refl _ _) _⟩
  · go_ret
    exact ⟨ret_bool (ok_numNo (by assumption) (by assumption)).symm, bl_alloc (Below.refl _ _) _⟩
  · have hn : n = 0 := by assumption
    subst hn
    go_ret
    exact ⟨ret_bool (ok_text (by assumption) (by assumption)).symm, bl_alloc (Below.refl _ _) _⟩
  · go_ret
    exact ⟨ret_bool (ok_textNo (by assumption) (by assumption) (by assumption)).symm, bl_alloc (Below.refl _ _) _⟩
  · go_ret
    exact ⟨ret_bool (ok_none (by assumption) (by assumption)).symm, bl_alloc (Below.refl _ _) _⟩
end Go.Proofs.YtdboaoejlkkoeaaGreat
namespace Go.Proofs.YtdboaoejlkkoeaaGreat
theorem tK {P : Program} {ops : Array Oper} {Q : Exit → Act → World → Prop} {md : Region.Mode} {S : World → Prop} (i : Nat) {oi : Oper} (v : Value) {fuel : Nat} {listed : Array Bool} {a : Act} {w : World} (hi : ops[i]? = some oi)
    (hb : (Region.noSelect ops && (Region.free md ops listed i && (Region.ready md ops listed).contains i)) = true) (hw : Region.wanted oi (yielded ops a.tmps) = true) (hv : ∀ w, S w → (execOp a.eval oi).run P w = .ok (.value v) w) (hS : S w)
    (hQ : ∀ c a w, Q (.panic c) (a.put oi.dst v) w → Q (.panic c) a w) (h : wpAnyH P md ops Q S fuel (listed.setIfInBounds i true) (a.put oi.dst v) w) : wpAnyH P md ops Q S (fuel + 1) listed a w := by
  simp only [Bool.and_eq_true] at hb
  exact wpAnyH_take (i := i) (v := v) hi hb.1 hb.2.1 hb.2.2 hQ (Or.inl ⟨hw, hv⟩) hS h
theorem tR {P : Program} {ops : Array Oper} {Q : Exit → Act → World → Prop} {md : Region.Mode} {S : World → Prop} (i : Nat) {oi : Oper} {v : Value} {fuel : Nat} {listed L : Array Bool} {a b : Act} {w : World} (h : wpAnyH P md ops Q S fuel L b w) (hi : ops[i]? = some oi := by rfl)
    (hb : (Region.noSelect ops && (Region.free md ops listed i && (Region.ready md ops listed).contains i)) = true := by kernel_rfl) (hw : Region.wanted oi (yielded ops a.tmps) = true := by rfl)
    (hv : ∀ w, S w → (execOp a.eval oi).run P w = .ok (.value v) w := by (intro w hSw; (try dsimp only at hSw); go_simp; try with_reducible rfl)) (hS : S w := by assumption)
    (ha : a.put oi.dst v = b := by ((try simp only [Act.put, zGA, zG0, zGC, zSA, zS0, zSC]); try rfl))
    (hL : listed.setIfInBounds i true = L := by ((try simp only [Act.put, zGA, zG0, zGC, zSA, zS0, zSC]); try rfl))
    (hQ : ∀ c a w, Q (.panic c) (a.put oi.dst v) w → Q (.panic c) a w := by exact fun _ _ _ h => h) : wpAnyH P md ops Q S (fuel + 1) listed a w := by
  simp only [Bool.and_eq_true] at hb
  subst ha; subst hL
  exact wpAnyH_take (i := i) (v := v) hi hb.1 hb.2.1 hb.2.2 hQ (Or.inl ⟨hw, hv⟩) hS h
theorem tU {P : Program} {ops : Array Oper} {Q : Exit → Act → World → Prop} {md : Region.Mode} {S : World → Prop} (i : Nat) {oi : Oper} {fuel : Nat} {listed L : Array Bool} {a b : Act} {w : World} (h : wpAnyH P md ops Q S fuel L b w) (hi : ops[i]? = some oi := by rfl)
    (hb : (Region.noSelect ops && (Region.free md ops listed i && (Region.ready md ops listed).contains i)) = true := by kernel_rfl) (hw : Region.wanted oi (yielded ops a.tmps) = false := by rfl) (hS : S w := by assumption)
    (ha : a.put oi.dst undef = b := by ((try simp only [Act.put, zGA, zG0, zGC, zSA, zS0, zSC]); try rfl))
    (hL : listed.setIfInBounds i true = L := by ((try simp only [Act.put, zGA, zG0, zGC, zSA, zS0, zSC]); try rfl))
    (hQ : ∀ c a w, Q (.panic c) (a.put oi.dst undef) w → Q (.panic c) a w := by exact fun _ _ _ h => h) : wpAnyH P md ops Q S (fuel + 1) listed a w := by
  simp only [Bool.and_eq_true] at hb
  subst ha; subst hL
  exact wpAnyH_take (i := i) (v := undef) hi hb.1 hb.2.1 hb.2.2 hQ (Or.inr ⟨hw, rfl⟩) hS h
theorem tW {P : Program} {ops : Array Oper} {Q : Exit → Act → World → Prop} {md : Region.Mode} {S : World → Prop} (i : Nat) {o : Oper} {fuel : Nat} {listed : Array Bool} {a : Act} {w : World}
    (h : ∀ K' : Act → World → Prop, Shut (∀ a w, S w → (S w → wpAnyH P md ops Q S fuel (listed.setIfInBounds i true) a w) → K' a w) → if Region.wanted o (yielded ops a.tmps) = true then Oper.wp P o a w K' Q else K' (a.put o.dst undef) w)
    (hr : Region.ready md ops listed = [i] := by kernel_rfl) (ho : ops[i]? = some o := by rfl) : wpAnyH P md ops Q S (fuel + 1) listed a w :=
  wpAnyH_ready hr (by simp) (AllReadyH.cons ho h AllReadyH.nil)
end Go.Proofs.YtdboaoejlkkoeaaGreat
