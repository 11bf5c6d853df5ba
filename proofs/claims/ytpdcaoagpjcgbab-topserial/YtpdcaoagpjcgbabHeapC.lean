/-
  The walks of heap.hasField and heap.Load. It proves no statement by itself.
-/
import Derived.Test.YtpdcaoagpjcgbabHeapB
import Derived.RegionTactic
import Derived.Deep.RegionHeld3
set_option linter.unusedVariables false
set_option linter.unusedSimpArgs false
namespace Go.Proofs.Ytpdcaoagpjcgbab
open Go.RowKit

/-- There is an object at p, and it has a field n. -/
def HasField (xs : List Int) (l : List Nat) (p n : Int) : Prop := p ∈ nums l ∧ 0 ≤ n ∧ n < xs.getD (p.toNat + 1) 0

/-- Where the field lies. -/
theorem HasField.where {xs : List Int} {t : Nat} {l : List Nat} {p n : Int} (h : HasField xs l p n) (hl : Laid xs t l) : ∃ q k : Nat, p = q ∧ n = k ∧ q ∈ l ∧ 1 ≤ q ∧ q + 2 + k < t ∧ (k : Int) < xs.getD (q + 1) 0 ∧ xs.getD (q + 1) 0 ≤ 6 := by
  obtain ⟨h1, h2, h3⟩ := h
  simp [nums] at h1
  obtain ⟨q, hq, rfl⟩ := h1
  obtain ⟨k, rfl⟩ := Int.eq_ofNat_of_zero_le h2
  rw [Int.toNat_natCast] at h3
  obtain ⟨g1, f1, f2, f3, f4⟩ := hl.fit q hq
  exact ⟨q, k, rfl, rfl, hq, g1, by omega, h3, f3⟩

theorem mem_nums {l : List Nat} {q : Nat} : (q : Int) ∈ nums l ↔ q ∈ l := by
  unfold nums
  rw [List.mem_map]
  constructor
  · rintro ⟨r, hr, h⟩
    obtain rfl : r = q := by omega
    exact hr
  · intro h
    exact ⟨q, h, rfl⟩

theorem place_bounds {xs : List Int} {t : Nat} {l : List Nat} {p : Int} (h : p ∈ nums l) (hl : Laid xs t l) : ∃ q : Nat, p = q ∧ q + 2 ≤ t := by
  simp [nums] at h
  obtain ⟨q, hq, rfl⟩ := h
  exact ⟨q, rfl, (hl.fit q hq).2.1⟩

set_option maxHeartbeats 800000 in
theorem hasField_any (a : Option Addr) (m cap : Nat) (xs : List Int) (t : Nat) (top : Int) (l : List Nat) (a2 : Option Addr) (c2 : Nat) (p n : Int) (w : World) (hi : Ints w a xs) (hx : xs.length = m) (hm : m ≤ 400) (ht : t ≤ m)
    (hl : Laid xs t l) (hi2 : Ints w a2 (nums l)) (r : Bool) (hr : r = true ↔ HasField xs l p n) :
    Calls Try.prog 52 #[.agg #[.slice a m cap, .int .i64 top], .slice a2 l.length c2, .int .i64 p, .int .i64 n] w fun e w' => e = .returned (.bool r) ∧ Below w.heap.size w w' := by
  have hl4 : l.length ≤ 400 := by have := hl.short; omega
  have HI2 := Lib.hide hi2
  have HL := Lib.hide hl
  by_cases hp : p ∈ nums l
  · have C := Lib.hide (fun w' (h : Below w.heap.size w w') => isPlace_any a2 l.length c2 (nums l) p w' (HI2.out.below h) (nums_length l) hl4 (nums_sorted HL.out.sorted) true (decide_eq_true hp))
    by_cases hn : 0 ≤ n
    · obtain ⟨q, rfl, hq⟩ := place_bounds hp hl
      obtain ⟨b, o, rfl, hb, hc⟩ := hi.at (by omega)
      have e1 := hc (q + 1) (by omega)
      obtain ⟨f, hf⟩ : ∃ f, xs.getD (q + 1) 0 = f := ⟨_, rfl⟩
      rw [hf] at e1
      have hd : decide (n < f) = r := by
        rw [Bool.eq_iff_iff, hr]
        unfold HasField
        rw [Int.toNat_natCast, hf]
        simp [hp, hn]
      clear hi hx hl hi2 hr hp hc hf
      go_enter Try.func52, Try.ntmps52
      go_wp2_with (go_at_call 76; refine (C.out _ (by repeat (first | exact Below.refl _ _ | assumption | refine Below.drew ?_ | refine below_drewN ?_ _ | refine Below.allocs ?_ | refine Below.next ?_ (by assumption) | refine Below.setCell ?_ (by dsimp only; omega) _))).mono ?_; rintro e w' ⟨rfl, rfl⟩)
      go_ret
      exact ⟨rfl, (by repeat (first | exact Below.refl _ _ | assumption | refine Below.drew ?_ | refine below_drewN ?_ _ | refine Below.allocs ?_ | refine Below.next ?_ (by assumption) | refine Below.setCell ?_ (by dsimp only; omega) _))⟩
    · obtain rfl : r = false := by
        cases r
        · rfl
        · exact absurd (hr.1 rfl).2.1 hn
      have hd : decide (0 ≤ n) = false := by simpa using hn
      clear hi hx hl hi2 hr hp
      go_enter Try.func52, Try.ntmps52
      go_wp2_with (go_at_call 76; refine (C.out _ (by repeat (first | exact Below.refl _ _ | assumption | refine Below.drew ?_ | refine below_drewN ?_ _ | refine Below.allocs ?_ | refine Below.next ?_ (by assumption) | refine Below.setCell ?_ (by dsimp only; omega) _))).mono ?_; rintro e w' ⟨rfl, rfl⟩)
      go_ret
      exact ⟨rfl, (by repeat (first | exact Below.refl _ _ | assumption | refine Below.drew ?_ | refine below_drewN ?_ _ | refine Below.allocs ?_ | refine Below.next ?_ (by assumption) | refine Below.setCell ?_ (by dsimp only; omega) _))⟩
  · obtain rfl : r = false := by
      cases r
      · rfl
      · exact absurd (hr.1 rfl).1 hp
    have C := Lib.hide (fun w' (h : Below w.heap.size w w') => isPlace_any a2 l.length c2 (nums l) p w' (HI2.out.below h) (nums_length l) hl4 (nums_sorted HL.out.sorted) false (decide_eq_false hp))
    clear hi hx hl hi2 hr hp
    go_enter Try.func52, Try.ntmps52
    go_wp2_with (go_at_call 76; refine (C.out _ (by repeat (first | exact Below.refl _ _ | assumption | refine Below.drew ?_ | refine below_drewN ?_ _ | refine Below.allocs ?_ | refine Below.next ?_ (by assumption) | refine Below.setCell ?_ (by dsimp only; omega) _))).mono ?_; rintro e w' ⟨rfl, rfl⟩)
    go_ret
    exact ⟨rfl, (by repeat (first | exact Below.refl _ _ | assumption | refine Below.drew ?_ | refine below_drewN ?_ _ | refine Below.allocs ?_ | refine Below.next ?_ (by assumption) | refine Below.setCell ?_ (by dsimp only; omega) _))⟩

/-- Two boxes of two cells each, laid by a call at its start, are as they were behind a callee. -/
structure TwoBoxes (w w1 : World) (x0 x1 y0 y1 : Value) : Prop where
  a0 : w1.cell? ⟨w.heap.size, 0, none⟩ = some x0
  a1 : w1.cell? ⟨w.heap.size, 1, none⟩ = some x1
  b0 : w1.cell? ⟨w.heap.size + 1, 0, none⟩ = some y0
  b1 : w1.cell? ⟨w.heap.size + 1, 1, none⟩ = some y1
  f0 : w1.frozen? ⟨w.heap.size + 1, 0, none⟩ = false
  f1 : w1.frozen? ⟨w.heap.size + 1, 1, none⟩ = false
  lt : w.heap.size + 1 < w1.heap.size
  lt0 : w.heap.size < w1.heap.size

theorem TwoBoxes.start (w : World) (x0 x1 y0 y1 : Value) (t u : TypeId) : TwoBoxes w ((w.alloc (.cells #[x0, x1] t)).alloc (.cells #[y0, y1] u)) x0 x1 y0 y1 := by
  constructor <;> go_simp

theorem TwoBoxes.next {w w1 w2 : World} {x0 x1 y0 y1 : Value} (h : TwoBoxes w w1 x0 x1 y0 y1) (hb : Below w1.heap.size w1 w2) : TwoBoxes w w2 x0 x1 y0 y1 := by
  have hlt := h.lt
  exact ⟨(hb.cell (p := ⟨w.heap.size, 0, none⟩) (by show w.heap.size < _; omega)).trans h.a0, (hb.cell (p := ⟨w.heap.size, 1, none⟩) (by show w.heap.size < _; omega)).trans h.a1,
    (hb.cell (p := ⟨w.heap.size + 1, 0, none⟩) hlt).trans h.b0, (hb.cell (p := ⟨w.heap.size + 1, 1, none⟩) hlt).trans h.b1,
    (hb.frozen (p := ⟨w.heap.size + 1, 0, none⟩) hlt).trans h.f0, (hb.frozen (p := ⟨w.heap.size + 1, 1, none⟩) hlt).trans h.f1, Nat.lt_of_lt_of_le hlt hb.size, Nat.lt_of_lt_of_le h.lt0 hb.size⟩

/-- A value and an error. -/
def LoadPost (w : World) (k m c : Int) (e : Ending) (w' : World) : Prop := e = .returned (.tuple #[.agg #[.int .i64 k, .int .i64 m], .int .i64 c]) ∧ Below w.heap.size w w'

set_option maxHeartbeats 800000 in
open Lw in
theorem load_bad (a : Option Addr) (n cap : Nat) (xs : List Int) (top p f : Int) (w : World) (hh : IsHeap w a n cap xs top) (hv : ∀ l, ¬ Valid xs top l) :
    Calls Try.prog 19 #[.agg #[.slice a n cap, .int .i64 top], .int .i64 p, .int .i64 f] w (LoadPost w 0 0 5) := by
  have H := Lib.hide hh
  have HV := Lib.hide hv
  clear hh hv
  go_enter Try.func19, Try.ntmps19
  go_wp2_with (go_at_call 16; refine (places_no a n cap xs top _ (H.out.below (by repeat (first | exact Below.refl _ _ | assumption | refine Below.drew ?_ | refine below_drewN ?_ _ | refine Below.allocs ?_ | refine Below.next ?_ (by assumption) | refine Below.setCell ?_ (by dsimp only; omega) _))) HV.out).mono ?_; rintro e w1 ⟨rfl, hb1⟩; obtain ⟨q1, q2, q3, q4, q5, q6, q7, q8⟩ := (TwoBoxes.start w _ _ _ _ _ _).next hb1)
  exact bodyPost_ret (v := .tuple #[.agg #[.int .i64 0, .int .i64 0], .int .i64 5]) (by simp [results, Try.results19, go_sem, q3, q4]) rfl ⟨rfl, (by repeat (first | exact Below.refl _ _ | assumption | refine Below.drew ?_ | refine below_drewN ?_ _ | refine Below.allocs ?_ | refine Below.next ?_ (by assumption) | refine Below.setCell ?_ (by dsimp only; omega) _))⟩

set_option maxHeartbeats 800000 in
open Lw in
theorem load_none (a : Option Addr) (n cap : Nat) (xs : List Int) (top p f : Int) (l : List Nat) (w : World) (hh : IsHeap w a n cap xs top) (hv : Valid xs top l) (hf : ¬ HasField xs l p f) :
    Calls Try.prog 19 #[.agg #[.slice a n cap, .int .i64 top], .int .i64 p, .int .i64 f] w (LoadPost w 0 0 4) := by
  have hx := hh.len
  have v2 := hv.len2
  have v3 := hv.top1
  have v4 := hv.top2
  rw [hx] at v2 v4
  have hl := Objects.laid hv.objects
  have ht : top.toNat ≤ n := by omega
  have H := Lib.hide hh
  have HX := Lib.hide hx
  have HV := Lib.hide hv
  have HL := Lib.hide hl
  have HF := Lib.hide hf
  clear hh hx hv hl hf
  go_enter Try.func19, Try.ntmps19
  go_wp2_with (first
    | (go_at_call 16; refine (places_yes a n cap xs top l _ (H.out.below (by repeat (first | exact Below.refl _ _ | assumption | refine Below.drew ?_ | refine below_drewN ?_ _ | refine Below.allocs ?_ | refine Below.next ?_ (by assumption) | refine Below.setCell ?_ (by dsimp only; omega) _))) HV.out).mono ?_; rintro e w1 ⟨a1, c1, rfl, ho1, hb1⟩; have HO1 := Lib.hide ho1; clear ho1; have HT := Lib.hide ((TwoBoxes.start w _ _ _ _ _ _).next hb1); obtain ⟨q1, q2, q3, q4, q5, q6, q7, q8⟩ := HT.out)
    | (go_at_call 52; refine (hasField_any a n cap xs top.toNat top l a1 c1 p f _ (H.out.ints.below (by repeat (first | exact Below.refl _ _ | assumption | refine Below.drew ?_ | refine below_drewN ?_ _ | refine Below.allocs ?_ | refine Below.next ?_ (by assumption) | refine Below.setCell ?_ (by dsimp only; omega) _))) HX.out v2 ht HL.out (HO1.out.reads.2.below (by repeat (first | exact Below.refl _ _ | assumption | refine Below.drew ?_ | refine below_drewN ?_ _ | refine Below.allocs ?_ | refine Below.next ?_ (by assumption) | refine Below.setCell ?_ (by dsimp only; omega) _))) false (by simp [HF.out])).mono ?_; rintro e w2 ⟨rfl, hb2⟩; obtain ⟨r1, r2, r3, r4, r5, r6, r7, r8⟩ := HT.out.next hb2))
  exact bodyPost_ret (v := .tuple #[.agg #[.int .i64 0, .int .i64 0], .int .i64 4]) (by simp [results, Try.results19, go_sem, r3, r4]) rfl ⟨rfl, (by repeat (first | exact Below.refl _ _ | assumption | refine Below.drew ?_ | refine below_drewN ?_ _ | refine Below.allocs ?_ | refine Below.next ?_ (by assumption) | refine Below.setCell ?_ (by dsimp only; omega) _))⟩

set_option maxHeartbeats 800000 in
open Lw in
theorem load_yes (a : Option Addr) (n cap : Nat) (xs : List Int) (top p f : Int) (l : List Nat) (w : World) (hh : IsHeap w a n cap xs top) (hv : Valid xs top l) (hf : HasField xs l p f) (y : Int) (hy : xs.getD (p.toNat + 2 + f.toNat) 0 = y) :
    Calls Try.prog 19 #[.agg #[.slice a n cap, .int .i64 top], .int .i64 p, .int .i64 f] w (LoadPost w (y % 2) (y / 2) 0) := by
  have hx := hh.len
  have v2 := hv.len2
  have v3 := hv.top1
  have v4 := hv.top2
  rw [hx] at v2 v4
  have hl := Objects.laid hv.objects
  have ht : top.toNat ≤ n := by omega
  obtain ⟨q, k, rfl, rfl, hq, g1, g2, g3, g4⟩ := hf.where hl
  rw [Int.toNat_natCast, Int.toNat_natCast] at hy
  have hyf : Fits y := by
    rw [← hy]
    have h : q + 2 + k < xs.length := by omega
    have : xs.getD (q + 2 + k) 0 = xs[q + 2 + k] := by simp [List.getD_eq_getElem?_getD, List.getElem?_eq_getElem h]
    rw [this]
    exact hh.fits _ (List.getElem_mem h)
  have H := Lib.hide hh
  have HX := Lib.hide hx
  have HV := Lib.hide hv
  have HL := Lib.hide hl
  have HF := Lib.hide hf
  have HY := Lib.hide hy
  have HYF := Lib.hide hyf
  clear hh hx hv hl hf hy hyf g3 hq
  go_enter Try.func19, Try.ntmps19
  go_wp2_with (first
    | (go_at_call 16; refine (places_yes a n cap xs top l _ (H.out.below (by repeat (first | exact Below.refl _ _ | assumption | refine Below.drew ?_ | refine below_drewN ?_ _ | refine Below.allocs ?_ | refine Below.next ?_ (by assumption) | refine Below.setCell ?_ (by dsimp only; omega) _))) HV.out).mono ?_; rintro e w1 ⟨a1, c1, rfl, ho1, hb1⟩; have HO1 := Lib.hide ho1; clear ho1; have HT := Lib.hide ((TwoBoxes.start w _ _ _ _ _ _).next hb1); obtain ⟨q1, q2, q3, q4, q5, q6, q7, q8⟩ := HT.out)
    | (go_at_call 52; refine (hasField_any a n cap xs top.toNat top l a1 c1 q k _ (H.out.ints.below (by repeat (first | exact Below.refl _ _ | assumption | refine Below.drew ?_ | refine below_drewN ?_ _ | refine Below.allocs ?_ | refine Below.next ?_ (by assumption) | refine Below.setCell ?_ (by dsimp only; omega) _))) HX.out v2 ht HL.out (HO1.out.reads.2.below (by repeat (first | exact Below.refl _ _ | assumption | refine Below.drew ?_ | refine below_drewN ?_ _ | refine Below.allocs ?_ | refine Below.next ?_ (by assumption) | refine Below.setCell ?_ (by dsimp only; omega) _))) true (by simp [HF.out])).mono ?_; rintro e w2 ⟨rfl, hb2⟩; have HT2 := Lib.hide (HT.out.next hb2); obtain ⟨r1, r2, r3, r4, r5, r6, r7, r8⟩ := HT2.out; obtain ⟨bb, oo, he, hlt, hcc⟩ := (H.out.ints.below (w' := w2) (by repeat (first | exact Below.refl _ _ | assumption | refine Below.drew ?_ | refine below_drewN ?_ _ | refine Below.allocs ?_ | refine Below.next ?_ (by assumption) | refine Below.setCell ?_ (by dsimp only; omega) _))).at (by rw [HX.out]; omega); have e1 := hcc (q + 2 + k) (by rw [HX.out]; omega); rw [HY.out] at e1; clear hcc; subst he)
    | (go_at_call 26; refine (of_any y _ HYF.out).mono ?_; rintro e w3 ⟨rfl, hb3⟩; obtain ⟨s1, s2, s3, s4, s5, s6, s7, s8⟩ := HT2.out.next hb3))
  exact bodyPost_ret (v := .tuple #[.agg #[.int .i64 (y % 2), .int .i64 (y / 2)], .int .i64 0]) (by simp [results, Try.results19, go_sem, s3, s4]) rfl ⟨rfl, (by repeat (first | exact Below.refl _ _ | assumption | refine Below.drew ?_ | refine below_drewN ?_ _ | refine Below.allocs ?_ | refine Below.next ?_ (by assumption) | refine Below.setCell ?_ (by dsimp only; omega) _))⟩

end Go.Proofs.Ytpdcaoagpjcgbab

/-
  The walks of heap.Alloc and the reference's AllocOf. It proves no statement by itself.
-/
namespace Go.Proofs.Ytpdcaoagpjcgbab
open Go.RowKit

/-- A heap in new memory, a number and no error. -/
def AllocPost (w : World) (xs : List Int) (n : Nat) (top p : Int) (e : Ending) (w' : World) : Prop :=
  ∃ a cap, e = .returned (.tuple #[.agg #[.slice a n cap, .int .i64 top], .int .i64 p, .int .i64 0]) ∧ Own w' w.heap.size (.slice a n cap) xs ∧ Below w.heap.size w w'

/-- No heap, and an error. -/
def AllocNo (w : World) (c : Int) (e : Ending) (w' : World) : Prop := e = .returned (.tuple #[.agg #[.slice none 0 0, .int .i64 0], .int .i64 0, .int .i64 c]) ∧ Below w.heap.size w w'

/-- A row of the call's own, at its block. -/
theorem Own.row {w : World} {base n c : Nat} {a : Option Addr} {xs : List Int} (h : Own w base (.slice a n c) xs) (h0 : 0 < n) : ∃ g, a = some ⟨g, 0, none⟩ ∧ base ≤ g ∧ g < w.heap.size ∧ (∀ i, i < n → w.cell? ⟨g, i, none⟩ = some (.int .i64 (xs.getD i 0))) ∧ ∀ i, w.frozen? ⟨g, i, none⟩ = false := by
  obtain ⟨hn, _⟩ := h.reads
  subst hn
  rcases h.2 with ⟨e, h1⟩ | ⟨g, cap, cur, e, hb, hg, _⟩
  · omega
  · injection e with e1 e2 e3
    subst e1
    subst e3
    refine ⟨g, rfl, hb, ?_, fun i hi => ?_, fun i => World.ownsRow.frozenAt h i⟩
    · rcases Nat.lt_or_ge g w.heap.size with h' | h'
      · exact h'
      · rw [Array.getElem?_eq_none h'] at hg; cases hg
    · have := World.ownsRow.cellAt h i (by omega)
      rw [this]
      simp [List.getD_eq_getElem?_getD, List.getElem?_eq_getElem hi]

theorem Own.stored {w : World} {base n c g : Nat} {xs : List Int} (h : Own w base (.slice (some ⟨g, 0, none⟩) n c) xs) (i : Nat) (y : Int) : Own (w.setCell ⟨g, i, none⟩ (.int .i64 y)) base (.slice (some ⟨g, 0, none⟩) n c) (xs.set i y) := by
  obtain ⟨hn, _⟩ := h.reads
  subst hn
  have := (World.ownsRow.stored h i (.int .i64 y)).1
  unfold Own
  rw [List.length_set, List.map_set]
  exact this

theorem Own.far {w : World} {base : Nat} {v : Value} {xs : List Int} (h : Own w base v xs) {p : Addr} (hp : v.ownBlock ≠ some p.block) (u : Value) : Own (w.setCell p u) base v xs := by
  refine ⟨h.1, ?_⟩
  rcases h.2 with h2 | ⟨g, cap, cur, hv, hg, hh, r⟩
  · exact .inl h2
  · refine .inr ⟨g, cap, cur, hv, hg, ?_, r⟩
    rw [Below.heap_setCell _ _ _ _ (fun e => hp (by rw [hv]; simp [Value.ownBlock, e]))]
    exact hh

theorem Own.isHeap {w : World} {base n c : Nat} {a : Option Addr} {xs : List Int} {top : Int} (h : Own w base (.slice a n c) xs) (hf : ∀ x ∈ xs, Fits x) (ht : Fits top) : IsHeap w a n c xs top := by
  obtain ⟨h1, h2⟩ := h.reads
  have hc : n ≤ c ∧ c ≤ 9223372036854775807 := by
    rcases h.2 with ⟨e, h3⟩ | ⟨g, cap, cur, e, _, _, h3, h4, _⟩
    · injection e with e1 e2 e3
      omega
    · injection e with e1 e2 e3
      unfold maxLen at h4
      omega
  exact ⟨h2, h1, hc.1, hc.2, hf, ht⟩

theorem fits_small {n : Int} (h1 : -1000000 ≤ n) (h2 : n ≤ 1000000) : Fits n := ⟨by omega, by omega⟩

theorem fits_set {xs : List Int} {i : Nat} {y : Int} (h : ∀ x ∈ xs, Fits x) (hy : Fits y) : ∀ x ∈ xs.set i y, Fits x := by
  intro x hx
  rcases List.mem_or_eq_of_mem_set hx with h' | h'
  · exact h x h'
  · rw [h']; exact hy

theorem Own.allocs {w : World} {base : Nat} {v : Value} {xs : List Int} (h : Own w base v xs) (o : Obj) : Own (w.alloc o) base v xs := World.ownsRow.alloc h o
theorem Own.drews {w : World} {base : Nat} {v : Value} {xs : List Int} (h : Own w base v xs) : Own w.drew base v xs := h

set_option maxHeartbeats 1600000 in
open Lw in
theorem alloc_yes (a : Option Addr) (n cap : Nat) (xs : List Int) (t f : Nat) (l : List Nat) (w : World) (hh : IsHeap w a n cap xs t) (hv : Valid xs t l) (hf : f ≤ 6) (hfit : t + 2 + f ≤ n) :
    Calls Try.prog 23 #[.agg #[.slice a n cap, .int .i64 t], .int .i64 f] w (AllocPost w (xs.set (t + 1) f) n ((t : Int) + (2 + f)) t) := by
  have hx := hh.len
  have v2 := hv.len2
  have v3 := hv.top1
  rw [hx] at v2
  have H := Lib.hide hh
  have HX := Lib.hide hx
  have HV := Lib.hide hv
  clear hh hx hv
  go_enter Try.func23, Try.ntmps23
  go_wp2_with (first
    | (go_at_call 21; refine (check_yes a n cap xs t l _ (H.out.below (by repeat (first | exact Below.refl _ _ | assumption | refine Below.drew ?_ | refine below_drewN ?_ _ | refine Below.allocs ?_ | refine Below.next ?_ (by assumption) | refine Below.setCell ?_ (by dsimp only; omega) _))) HV.out).mono ?_; rintro e w1 ⟨rfl, hb1⟩; have HT := Lib.hide ((TwoBoxes.start w _ _ _ _ _ _).next hb1); obtain ⟨q1, q2, q3, q4, q5, q6, q7, q8⟩ := HT.out)
    | (go_at_call 54; refine (copy_any a n cap xs t _ (H.out.ints.below (by repeat (first | exact Below.refl _ _ | assumption | refine Below.drew ?_ | refine below_drewN ?_ _ | refine Below.allocs ?_ | refine Below.next ?_ (by assumption) | refine Below.setCell ?_ (by dsimp only; omega) _))) HX.out (by omega)).mono ?_; rintro e w2 ⟨a2, c2, rfl, ho2, hb2⟩; have HT2 := Lib.hide (HT.out.next hb2); obtain ⟨r1, r2, r3, r4, r5, r6, r7, r8⟩ := HT2.out; obtain ⟨g, he, hg1, hg2, hgc, hgf⟩ := ho2.row (by omega); subst he; have HO2 := Lib.hide ho2; clear ho2; have e1 := hgc (t + 1) (by omega); have e2 := hgf (t + 1); have hg3 : w.heap.size < g := Nat.lt_of_lt_of_le q8 hg1; have hg4 : w.heap.size + 1 < g := Nat.lt_of_lt_of_le q7 hg1; clear hgc hgf))
  go_region
  go_wp2
  exact bodyPost_ret (v := .tuple #[.agg #[.slice (some ⟨g, 0, none⟩) n c2, .int .i64 ((t : Int) + (2 + f))], .int .i64 t, .int .i64 0]) (by simp only [results, Try.results23]; go_simp) rfl
    ⟨_, _, rfl, ownsRow_base ((((HO2.out.stored (t + 1) f).far (by simp [Value.ownBlock]; omega) _).far (by simp [Value.ownBlock]; omega) _).allocs _).drews (Nat.le_of_lt q8), (by repeat (first | exact Below.refl _ _ | assumption | refine Below.drew ?_ | refine below_drewN ?_ _ | refine Below.allocs ?_ | refine Below.next ?_ (by assumption) | refine Below.setCell ?_ (by dsimp only; omega) _))⟩

set_option maxHeartbeats 1600000 in
open Lw in
theorem alloc_no (a : Option Addr) (n cap : Nat) (xs : List Int) (top f : Int) (w : World) (hh : IsHeap w a n cap xs top) (hv : ∀ l, ¬ Valid xs top l) :
    Calls Try.prog 23 #[.agg #[.slice a n cap, .int .i64 top], .int .i64 f] w (AllocNo w 5) := by
  have H := Lib.hide hh
  have HV := Lib.hide hv
  clear hh hv
  go_enter Try.func23, Try.ntmps23
  go_wp2_with (go_at_call 21; refine (check_no a n cap xs top _ (H.out.below (by repeat (first | exact Below.refl _ _ | assumption | refine Below.drew ?_ | refine below_drewN ?_ _ | refine Below.allocs ?_ | refine Below.next ?_ (by assumption) | refine Below.setCell ?_ (by dsimp only; omega) _))) HV.out).mono ?_; rintro e w1 ⟨rfl, hb1⟩; obtain ⟨q1, q2, q3, q4, q5, q6, q7, q8⟩ := (TwoBoxes.start w _ _ _ _ _ _).next hb1)
  exact bodyPost_ret (v := .tuple #[.agg #[.slice none 0 0, .int .i64 0], .int .i64 0, .int .i64 5]) (by simp [results, Try.results23, go_sem, q3, q4]) rfl ⟨rfl, (by repeat (first | exact Below.refl _ _ | assumption | refine Below.drew ?_ | refine below_drewN ?_ _ | refine Below.allocs ?_ | refine Below.next ?_ (by assumption) | refine Below.setCell ?_ (by dsimp only; omega) _))⟩

set_option maxHeartbeats 1600000 in
open Lw in
theorem alloc_range (a : Option Addr) (n cap : Nat) (xs : List Int) (top f : Int) (l : List Nat) (w : World) (hh : IsHeap w a n cap xs top) (hv : Valid xs top l) (hf : f < 0 ∨ 6 < f) :
    Calls Try.prog 23 #[.agg #[.slice a n cap, .int .i64 top], .int .i64 f] w (AllocNo w 2) := by
  have H := Lib.hide hh
  have HV := Lib.hide hv
  clear hh hv
  by_cases h1 : f < 0
  · clear hf
    go_enter Try.func23, Try.ntmps23
    go_wp2_with (go_at_call 21; refine (check_yes a n cap xs top l _ (H.out.below (by repeat (first | exact Below.refl _ _ | assumption | refine Below.drew ?_ | refine below_drewN ?_ _ | refine Below.allocs ?_ | refine Below.next ?_ (by assumption) | refine Below.setCell ?_ (by dsimp only; omega) _))) HV.out).mono ?_; rintro e w1 ⟨rfl, hb1⟩; obtain ⟨q1, q2, q3, q4, q5, q6, q7, q8⟩ := (TwoBoxes.start w _ _ _ _ _ _).next hb1)
    exact bodyPost_ret (v := .tuple #[.agg #[.slice none 0 0, .int .i64 0], .int .i64 0, .int .i64 2]) (by simp [results, Try.results23, go_sem, q3, q4]) rfl ⟨rfl, (by repeat (first | exact Below.refl _ _ | assumption | refine Below.drew ?_ | refine below_drewN ?_ _ | refine Below.allocs ?_ | refine Below.next ?_ (by assumption) | refine Below.setCell ?_ (by dsimp only; omega) _))⟩
  · have h2 : 6 < f := by omega
    clear hf
    go_enter Try.func23, Try.ntmps23
    go_wp2_with (go_at_call 21; refine (check_yes a n cap xs top l _ (H.out.below (by repeat (first | exact Below.refl _ _ | assumption | refine Below.drew ?_ | refine below_drewN ?_ _ | refine Below.allocs ?_ | refine Below.next ?_ (by assumption) | refine Below.setCell ?_ (by dsimp only; omega) _))) HV.out).mono ?_; rintro e w1 ⟨rfl, hb1⟩; obtain ⟨q1, q2, q3, q4, q5, q6, q7, q8⟩ := (TwoBoxes.start w _ _ _ _ _ _).next hb1)
    exact bodyPost_ret (v := .tuple #[.agg #[.slice none 0 0, .int .i64 0], .int .i64 0, .int .i64 2]) (by simp [results, Try.results23, go_sem, q3, q4]) rfl ⟨rfl, (by repeat (first | exact Below.refl _ _ | assumption | refine Below.drew ?_ | refine below_drewN ?_ _ | refine Below.allocs ?_ | refine Below.next ?_ (by assumption) | refine Below.setCell ?_ (by dsimp only; omega) _))⟩

set_option maxHeartbeats 1600000 in
open Lw in
theorem alloc_full (a : Option Addr) (n cap : Nat) (xs : List Int) (t f : Nat) (l : List Nat) (w : World) (hh : IsHeap w a n cap xs t) (hv : Valid xs t l) (hf : f ≤ 6) (hfit : n < t + 2 + f) :
    Calls Try.prog 23 #[.agg #[.slice a n cap, .int .i64 t], .int .i64 f] w (AllocNo w 1) := by
  have hx := hh.len
  have v2 := hv.len2
  have v4 := hv.top2
  rw [hx] at v2 v4
  have H := Lib.hide hh
  have HV := Lib.hide hv
  clear hh hv hx
  go_enter Try.func23, Try.ntmps23
  go_wp2_with (go_at_call 21; refine (check_yes a n cap xs t l _ (H.out.below (by repeat (first | exact Below.refl _ _ | assumption | refine Below.drew ?_ | refine below_drewN ?_ _ | refine Below.allocs ?_ | refine Below.next ?_ (by assumption) | refine Below.setCell ?_ (by dsimp only; omega) _))) HV.out).mono ?_; rintro e w1 ⟨rfl, hb1⟩; obtain ⟨q1, q2, q3, q4, q5, q6, q7, q8⟩ := (TwoBoxes.start w _ _ _ _ _ _).next hb1)
  exact bodyPost_ret (v := .tuple #[.agg #[.slice none 0 0, .int .i64 0], .int .i64 0, .int .i64 1]) (by simp [results, Try.results23, go_sem, q3, q4]) rfl ⟨rfl, (by repeat (first | exact Below.refl _ _ | assumption | refine Below.drew ?_ | refine below_drewN ?_ _ | refine Below.allocs ?_ | refine Below.next ?_ (by assumption) | refine Below.setCell ?_ (by dsimp only; omega) _))⟩
end Go.Proofs.Ytpdcaoagpjcgbab

/-
  The walks of heap.Store. It proves no statement by itself.
-/
namespace Go.Proofs.Ytpdcaoagpjcgbab
open Go.RowKit

/-- A box of two cells at block b. -/
structure Box2 (w : World) (b : Nat) (x y : Value) : Prop where
  c0 : w.cell? ⟨b, 0, none⟩ = some x
  c1 : w.cell? ⟨b, 1, none⟩ = some y
  f0 : w.frozen? ⟨b, 0, none⟩ = false
  f1 : w.frozen? ⟨b, 1, none⟩ = false
  lt : b < w.heap.size

theorem Box2.next {w w' : World} {b : Nat} {x y : Value} (h : Box2 w b x y) (hb : Below w.heap.size w w') : Box2 w' b x y :=
  ⟨(hb.cell (p := ⟨b, 0, none⟩) h.lt).trans h.c0, (hb.cell (p := ⟨b, 1, none⟩) h.lt).trans h.c1, (hb.frozen (p := ⟨b, 0, none⟩) h.lt).trans h.f0, (hb.frozen (p := ⟨b, 1, none⟩) h.lt).trans h.f1, Nat.lt_of_lt_of_le h.lt hb.size⟩
theorem Box2.new (w : World) (x y : Value) (t : TypeId) : Box2 (w.alloc (.cells #[x, y] t)) w.heap.size x y := by
  constructor <;> go_simp
theorem Box2.alloc {w : World} {b : Nat} {x y : Value} (h : Box2 w b x y) (o : Obj) : Box2 (w.alloc o) b x y := h.next (Below.allocs (Below.refl _ _))

theorem Box2.far {w : World} {b : Nat} {x y : Value} (h : Box2 w b x y) {p : Addr} (hp : b ≠ p.block) (u : Value) : Box2 (w.setCell p u) b x y := by
  have e := Below.heap_setCell w p u b hp
  exact ⟨(World.cell?_of_block e).trans h.c0, (World.cell?_of_block e).trans h.c1, (World.frozen?_of_block e).trans h.f0, (World.frozen?_of_block e).trans h.f1, by simpa [World.setCell] using h.lt⟩
theorem Box2.put {w : World} {b : Nat} {x y : Value} (h : Box2 w b x y) (x' y' : Value) : Box2 ((w.setCell ⟨b, 0, none⟩ x').setCell ⟨b, 1, none⟩ y') b x' y' := by
  obtain ⟨h0, h1, h2, h3, h4⟩ := h
  constructor <;> go_simp

/-- The three boxes that Store lays at its start. -/
theorem three_boxes (w : World) (x y : Value) (k m : Value) (r s : Value) (t u v : TypeId) :
    Box2 (((w.alloc (.cells #[x, y] t)).alloc (.cells #[k, m] u)).alloc (.cells #[r, s] v)) w.heap.size x y ∧
    Box2 (((w.alloc (.cells #[x, y] t)).alloc (.cells #[k, m] u)).alloc (.cells #[r, s] v)) (w.heap.size + 1) k m ∧
    Box2 (((w.alloc (.cells #[x, y] t)).alloc (.cells #[k, m] u)).alloc (.cells #[r, s] v)) (w.heap.size + 2) r s := by
  refine ⟨((Box2.new w x y t).alloc _).alloc _, ?_, ?_⟩
  · have := ((Box2.new (w.alloc (.cells #[x, y] t)) k m u).alloc (.cells #[r, s] v))
    simpa using this
  · have := Box2.new ((w.alloc (.cells #[x, y] t)).alloc (.cells #[k, m] u)) r s v
    simpa using this

/-- A heap in new memory and no error. -/
def StorePost (w : World) (xs : List Int) (n : Nat) (top : Int) (e : Ending) (w' : World) : Prop :=
  ∃ a cap, e = .returned (.tuple #[.agg #[.slice a n cap, .int .i64 top], .int .i64 0]) ∧ Own w' w.heap.size (.slice a n cap) xs ∧ Below w.heap.size w w'
/-- No heap and an error. -/
def StoreNo (w : World) (c : Int) (e : Ending) (w' : World) : Prop := e = .returned (.tuple #[.agg #[.slice none 0 0, .int .i64 0], .int .i64 c]) ∧ Below w.heap.size w w'

set_option maxHeartbeats 1600000 in
open Lw in
theorem store_bad (a : Option Addr) (n cap : Nat) (xs : List Int) (top p f k m : Int) (w : World) (hh : IsHeap w a n cap xs top) (hv : ∀ l, ¬ Valid xs top l) :
    Calls Try.prog 18 #[.agg #[.slice a n cap, .int .i64 top], .int .i64 p, .int .i64 f, .agg #[.int .i64 k, .int .i64 m]] w (StoreNo w 5) := by
  have H := Lib.hide hh
  have HV := Lib.hide hv
  clear hh hv
  have HB := Lib.hide (three_boxes w (.slice a n cap) (.int .i64 top) (.int .i64 k) (.int .i64 m) (.slice none 0 0) (.int .i64 0) 27 34 27)
  go_enter Try.func18, Try.ntmps18
  go_wp2_with (go_at_call 16; refine (places_no a n cap xs top _ (H.out.below (by repeat (first | exact Below.refl _ _ | assumption | refine Below.drew ?_ | refine below_drewN ?_ _ | refine Below.allocs ?_ | refine Below.next ?_ (by assumption) | refine Below.setCell ?_ (by dsimp only; omega) _))) HV.out).mono ?_; rintro e w1 ⟨rfl, hb1⟩; obtain ⟨q0, q1, q2, q3, q4⟩ := HB.out.2.2.next hb1)
  exact bodyPost_ret (v := .tuple #[.agg #[.slice none 0 0, .int .i64 0], .int .i64 5]) (by simp [results, Try.results18, go_sem, q0, q1]) rfl ⟨rfl, (by repeat (first | exact Below.refl _ _ | assumption | refine Below.drew ?_ | refine below_drewN ?_ _ | refine Below.allocs ?_ | refine Below.next ?_ (by assumption) | refine Below.setCell ?_ (by dsimp only; omega) _))⟩

set_option maxHeartbeats 1600000 in
open Lw in
theorem store_none (a : Option Addr) (n cap : Nat) (xs : List Int) (top p f k m : Int) (l : List Nat) (w : World) (hh : IsHeap w a n cap xs top) (hv : Valid xs top l) (hf : ¬ HasField xs l p f) :
    Calls Try.prog 18 #[.agg #[.slice a n cap, .int .i64 top], .int .i64 p, .int .i64 f, .agg #[.int .i64 k, .int .i64 m]] w (StoreNo w 4) := by
  have hx := hh.len
  have v2 := hv.len2
  have v3 := hv.top1
  have v4 := hv.top2
  rw [hx] at v2 v4
  have hl := Objects.laid hv.objects
  have ht : top.toNat ≤ n := by omega
  have H := Lib.hide hh
  have HX := Lib.hide hx
  have HV := Lib.hide hv
  have HL := Lib.hide hl
  have HF := Lib.hide hf
  clear hh hx hv hl hf
  have HB := Lib.hide (three_boxes w (.slice a n cap) (.int .i64 top) (.int .i64 k) (.int .i64 m) (.slice none 0 0) (.int .i64 0) 27 34 27)
  go_enter Try.func18, Try.ntmps18
  go_wp2_with (first
    | (go_at_call 16; refine (places_yes a n cap xs top l _ (H.out.below (by repeat (first | exact Below.refl _ _ | assumption | refine Below.drew ?_ | refine below_drewN ?_ _ | refine Below.allocs ?_ | refine Below.next ?_ (by assumption) | refine Below.setCell ?_ (by dsimp only; omega) _))) HV.out).mono ?_; rintro e w1 ⟨a1, c1, rfl, ho1, hb1⟩; have HO1 := Lib.hide ho1; clear ho1; obtain ⟨q0, q1, q2, q3, q4⟩ := HB.out.1.next hb1; have HR := Lib.hide (HB.out.2.2.next hb1))
    | (go_at_call 52; refine (hasField_any a n cap xs top.toNat top l a1 c1 p f _ (H.out.ints.below (by repeat (first | exact Below.refl _ _ | assumption | refine Below.drew ?_ | refine below_drewN ?_ _ | refine Below.allocs ?_ | refine Below.next ?_ (by assumption) | refine Below.setCell ?_ (by dsimp only; omega) _))) HX.out v2 ht HL.out (HO1.out.reads.2.below (by repeat (first | exact Below.refl _ _ | assumption | refine Below.drew ?_ | refine below_drewN ?_ _ | refine Below.allocs ?_ | refine Below.next ?_ (by assumption) | refine Below.setCell ?_ (by dsimp only; omega) _))) false (by simp [HF.out])).mono ?_; rintro e w2 ⟨rfl, hb2⟩; obtain ⟨r0, r1, r2, r3, r4⟩ := HR.out.next hb2))
  exact bodyPost_ret (v := .tuple #[.agg #[.slice none 0 0, .int .i64 0], .int .i64 4]) (by simp [results, Try.results18, go_sem, r0, r1]) rfl ⟨rfl, (by repeat (first | exact Below.refl _ _ | assumption | refine Below.drew ?_ | refine below_drewN ?_ _ | refine Below.allocs ?_ | refine Below.next ?_ (by assumption) | refine Below.setCell ?_ (by dsimp only; omega) _))⟩

set_option maxHeartbeats 1600000 in
open Lw in
theorem store_code (a : Option Addr) (n cap : Nat) (xs : List Int) (top p f k m c : Int) (l : List Nat) (w : World) (hh : IsHeap w a n cap xs top) (hv : Valid xs top l) (hf : HasField xs l p f) (hc : codeOf (nums l) k m = c) (hc0 : c ≠ 0) :
    Calls Try.prog 18 #[.agg #[.slice a n cap, .int .i64 top], .int .i64 p, .int .i64 f, .agg #[.int .i64 k, .int .i64 m]] w (StoreNo w c) := by
  have hx := hh.len
  have v2 := hv.len2
  have v3 := hv.top1
  have v4 := hv.top2
  rw [hx] at v2 v4
  have hl := Objects.laid hv.objects
  have ht : top.toNat ≤ n := by omega
  have hl4 : l.length ≤ 400 := by have := hl.short; omega
  have hd : (c != 0) = true := by simpa using hc0
  have H := Lib.hide hh
  have HX := Lib.hide hx
  have HV := Lib.hide hv
  have HL := Lib.hide hl
  have HF := Lib.hide hf
  have HC := Lib.hide hc
  clear hh hx hv hl hf hc hc0
  have HB := Lib.hide (three_boxes w (.slice a n cap) (.int .i64 top) (.int .i64 k) (.int .i64 m) (.slice none 0 0) (.int .i64 0) 27 34 27)
  go_enter Try.func18, Try.ntmps18
  go_wp2_with (first
    | (go_at_call 16; refine (places_yes a n cap xs top l _ (H.out.below (by repeat (first | exact Below.refl _ _ | assumption | refine Below.drew ?_ | refine below_drewN ?_ _ | refine Below.allocs ?_ | refine Below.next ?_ (by assumption) | refine Below.setCell ?_ (by dsimp only; omega) _))) HV.out).mono ?_; rintro e w1 ⟨a1, c1, rfl, ho1, hb1⟩; have HO1 := Lib.hide ho1; clear ho1; obtain ⟨q0, q1, q2, q3, q4⟩ := HB.out.1.next hb1; have HR := Lib.hide (HB.out.2.2.next hb1); have HVB := Lib.hide (HB.out.2.1.next hb1))
    | (go_at_call 52; refine (hasField_any a n cap xs top.toNat top l a1 c1 p f _ (H.out.ints.below (by repeat (first | exact Below.refl _ _ | assumption | refine Below.drew ?_ | refine below_drewN ?_ _ | refine Below.allocs ?_ | refine Below.next ?_ (by assumption) | refine Below.setCell ?_ (by dsimp only; omega) _))) HX.out v2 ht HL.out (HO1.out.reads.2.below (by repeat (first | exact Below.refl _ _ | assumption | refine Below.drew ?_ | refine below_drewN ?_ _ | refine Below.allocs ?_ | refine Below.next ?_ (by assumption) | refine Below.setCell ?_ (by dsimp only; omega) _))) true (by simp [HF.out])).mono ?_; rintro e w2 ⟨rfl, hb2⟩; obtain ⟨r0, r1, r2, r3, r4⟩ := HVB.out.next hb2; have HR2 := Lib.hide (HR.out.next hb2))
    | (go_at_call 53; refine (checkValue_any a1 l.length c1 (nums l) k m _ (HO1.out.reads.2.below (by repeat (first | exact Below.refl _ _ | assumption | refine Below.drew ?_ | refine below_drewN ?_ _ | refine Below.allocs ?_ | refine Below.next ?_ (by assumption) | refine Below.setCell ?_ (by dsimp only; omega) _))) (nums_length l) hl4 (nums_sorted HL.out.sorted) c HC.out).mono ?_; rintro e w3 ⟨rfl, hb3⟩; obtain ⟨s0, s1, s2, s3, s4⟩ := HR2.out.next hb3))
  exact bodyPost_ret (v := .tuple #[.agg #[.slice none 0 0, .int .i64 0], .int .i64 c]) (by simp [results, Try.results18, go_sem, s0, s1]) rfl ⟨rfl, (by repeat (first | exact Below.refl _ _ | assumption | refine Below.drew ?_ | refine below_drewN ?_ _ | refine Below.allocs ?_ | refine Below.next ?_ (by assumption) | refine Below.setCell ?_ (by dsimp only; omega) _))⟩

theorem code_bounds {xs : List Int} {t : Nat} {l : List Nat} {k m : Int} (hl : Laid xs t l) (ht : t ≤ 400) (hc : codeOf (nums l) k m = 0) : -1099511627776 ≤ m ∧ m ≤ 1099511627776 ∧ (k = 0 ∨ k = 1) := by
  unfold codeOf at hc
  split at hc
  · rename_i hk
    split at hc
    · rename_i h
      exact ⟨h.1, h.2, .inl hk⟩
    · cases hc
  · split at hc
    · rename_i hk
      split at hc
      · rename_i h
        rcases h with h | h
        · exact ⟨by omega, by omega, .inr hk⟩
        · obtain ⟨q, rfl, hq⟩ := place_bounds h hl
          exact ⟨by omega, by omega, .inr hk⟩
      · cases hc
    · cases hc

/-- The boxes that the last statement of Store reads, and the cell that it writes, behind new memory. -/
theorem store_keep {w3 w4 : World} {B X g i : Nat} {s0 s1 k m z : Value} (h1 : Box2 w3 X s0 s1) (h2 : Box2 w3 B k m) (hc : w3.cell? ⟨g, i, none⟩ = some z) (hf : w3.frozen? ⟨g, i, none⟩ = false) (hg : g < w3.heap.size) (hb : Below w3.heap.size w3 w4) :
    Box2 w4 X s0 s1 ∧ Box2 w4 B k m ∧ w4.cell? ⟨g, i, none⟩ = some z ∧ w4.frozen? ⟨g, i, none⟩ = false ∧ g < w4.heap.size :=
  ⟨h1.next hb, h2.next hb, (hb.cell (p := ⟨g, i, none⟩) hg).trans hc, (hb.frozen (p := ⟨g, i, none⟩) hg).trans hf, Nat.lt_of_lt_of_le hg hb.size⟩

theorem far_cell {w : World} {g i b j : Nat} {u v : Value} (h : w.cell? ⟨b, j, none⟩ = some v) (hne : b ≠ g) : (w.setCell ⟨g, i, none⟩ u).cell? ⟨b, j, none⟩ = some v := by
  rw [World.cell?_setCell_other w ⟨g, i, none⟩ ⟨b, j, none⟩ u (fun e => hne (by injection e with e; exact e.symm))]
  exact h

set_option maxHeartbeats 1600000 in
open Lw in
theorem store_yes (a : Option Addr) (n cap : Nat) (xs : List Int) (top k m : Int) (p f : Nat) (l : List Nat) (w : World) (hh : IsHeap w a n cap xs top) (hv : Valid xs top l) (hf : HasField xs l p f) (hc : codeOf (nums l) k m = 0) :
    Calls Try.prog 18 #[.agg #[.slice a n cap, .int .i64 top], .int .i64 p, .int .i64 f, .agg #[.int .i64 k, .int .i64 m]] w (StorePost w (xs.set (p + 2 + f) (wordOf k m)) n top) := by
  have hx := hh.len
  have v2 := hv.len2
  have v3 := hv.top1
  have v4 := hv.top2
  rw [hx] at v2 v4
  have hl := Objects.laid hv.objects
  have ht : top.toNat ≤ n := by omega
  have hl4 : l.length ≤ 400 := by have := hl.short; omega
  obtain ⟨m1, m2, m3⟩ := code_bounds hl (by omega) hc
  obtain ⟨p', f', hp', hf', _, _, hpf, _, _⟩ := hf.where hl
  obtain rfl : p = p' := by omega
  obtain rfl : f = f' := by omega
  have H := Lib.hide hh
  have HX := Lib.hide hx
  have HV := Lib.hide hv
  have HL := Lib.hide hl
  have HF := Lib.hide hf
  have HC := Lib.hide hc
  clear hh hx hv hl hf hc hp' hf' m3
  have HB := Lib.hide (three_boxes w (.slice a n cap) (.int .i64 top) (.int .i64 k) (.int .i64 m) (.slice none 0 0) (.int .i64 0) 27 34 27)
  go_enter Try.func18, Try.ntmps18
  go_wp2_with (first
    | (go_at_call 16; refine (places_yes a n cap xs top l _ (H.out.below (by repeat (first | exact Below.refl _ _ | assumption | refine Below.drew ?_ | refine below_drewN ?_ _ | refine Below.allocs ?_ | refine Below.next ?_ (by assumption) | refine Below.setCell ?_ (by dsimp only; omega) _))) HV.out).mono ?_; rintro e w1 ⟨a1, c1, rfl, ho1, hb1⟩; have HO1 := Lib.hide ho1; clear ho1; have HH1 := Lib.hide (HB.out.1.next hb1); obtain ⟨q0, q1, q2, q3, q4⟩ := HH1.out; have HR := Lib.hide (HB.out.2.2.next hb1); have HVB := Lib.hide (HB.out.2.1.next hb1))
    | (go_at_call 52; refine (hasField_any a n cap xs top.toNat top l a1 c1 p f _ (H.out.ints.below (by repeat (first | exact Below.refl _ _ | assumption | refine Below.drew ?_ | refine below_drewN ?_ _ | refine Below.allocs ?_ | refine Below.next ?_ (by assumption) | refine Below.setCell ?_ (by dsimp only; omega) _))) HX.out v2 ht HL.out (HO1.out.reads.2.below (by repeat (first | exact Below.refl _ _ | assumption | refine Below.drew ?_ | refine below_drewN ?_ _ | refine Below.allocs ?_ | refine Below.next ?_ (by assumption) | refine Below.setCell ?_ (by dsimp only; omega) _))) true (by simp [HF.out])).mono ?_; rintro e w2 ⟨rfl, hb2⟩; have HVB2 := Lib.hide (HVB.out.next hb2); obtain ⟨r0, r1, r2, r3, r4⟩ := HVB2.out; have HR2 := Lib.hide (HR.out.next hb2); have HH2 := Lib.hide (HH1.out.next hb2))
    | (go_at_call 53; refine (checkValue_any a1 l.length c1 (nums l) k m _ (HO1.out.reads.2.below (by repeat (first | exact Below.refl _ _ | assumption | refine Below.drew ?_ | refine below_drewN ?_ _ | refine Below.allocs ?_ | refine Below.next ?_ (by assumption) | refine Below.setCell ?_ (by dsimp only; omega) _))) (nums_length l) hl4 (nums_sorted HL.out.sorted) 0 HC.out).mono ?_; rintro e w3 ⟨rfl, hb3⟩; have HVB3 := Lib.hide (HVB2.out.next hb3); have HR3 := Lib.hide (HR2.out.next hb3); obtain ⟨s0, s1, s2, s3, s4⟩ := HH2.out.next hb3)
    | (go_at_call 54; refine (copy_any a n cap xs top _ (H.out.ints.below (by repeat (first | exact Below.refl _ _ | assumption | refine Below.drew ?_ | refine below_drewN ?_ _ | refine Below.allocs ?_ | refine Below.next ?_ (by assumption) | refine Below.setCell ?_ (by dsimp only; omega) _))) HX.out (by omega)).mono ?_; rintro e w4 ⟨a4, c4, rfl, ho4, hb4⟩; have HVB4 := Lib.hide (HVB3.out.next hb4); have HR4 := Lib.hide (HR3.out.next hb4); obtain ⟨g, he, hg1, hg2, hgc, hgf⟩ := ho4.row (by omega); subst he; have HO4 := Lib.hide ho4; clear ho4; have e1 := hgc (p + 2 + f) (by omega); have e2 := hgf (p + 2 + f); clear hgc hgf))
  have hX : Box2 (w4.alloc (.cells #[.slice (some ⟨g, 0, none⟩) n c4, .int .i64 top] 27)).drew w4.heap.size (.slice (some ⟨g, 0, none⟩) n c4) (.int .i64 top) := (Box2.new w4 _ _ _).next (by repeat (first | exact Below.refl _ _ | assumption | refine Below.drew ?_ | refine below_drewN ?_ _ | refine Below.allocs ?_ | refine Below.next ?_ (by assumption) | refine Below.setCell ?_ (by dsimp only; omega) _))
  have hV : Box2 (w4.alloc (.cells #[.slice (some ⟨g, 0, none⟩) n c4, .int .i64 top] 27)).drew (w.heap.size + 1) (.int .i64 k) (.int .i64 m) := HVB4.out.next (by repeat (first | exact Below.refl _ _ | assumption | refine Below.drew ?_ | refine below_drewN ?_ _ | refine Below.allocs ?_ | refine Below.next ?_ (by assumption) | refine Below.setCell ?_ (by dsimp only; omega) _))
  have hb5 : Below w4.heap.size w4 (w4.alloc (.cells #[.slice (some ⟨g, 0, none⟩) n c4, .int .i64 top] 27)).drew := (by repeat (first | exact Below.refl _ _ | assumption | refine Below.drew ?_ | refine below_drewN ?_ _ | refine Below.allocs ?_ | refine Below.next ?_ (by assumption) | refine Below.setCell ?_ (by dsimp only; omega) _))
  have e3 := (hb5.cell (p := ⟨g, p + 2 + f, none⟩) hg2).trans e1
  have e4 := (hb5.frozen (p := ⟨g, p + 2 + f, none⟩) hg2).trans e2
  have hg5 := Nat.lt_of_lt_of_le hg2 hb5.size
  have hn1 : w4.heap.size ≠ g := by omega
  have hn2 : w.heap.size + 1 ≠ g := by have := HVB3.out.lt; omega
  have HX5 := Lib.hide hX
  have HV5 := Lib.hide hV
  obtain ⟨x0, x1, x2, x3, x4⟩ := hX
  obtain ⟨y0, y1, y2, y3, y4⟩ := hV
  have i1 : IntKind.i64.wrap ((p : Int) + 2) = (p : Int) + 2 := IntWalk.i64_in _ (by omega)
  have i2 : IntKind.i64.wrap ((p : Int) + 2 + (f : Int)) = (p : Int) + 2 + (f : Int) := IntWalk.i64_in _ (by omega)
  have i3 : (0 : Int) ≤ (p : Int) + 2 + (f : Int) := by omega
  have i4 : (p : Int) + 2 + (f : Int) < (n : Int) := by omega
  have i5 : ((p : Int) + 2 + (f : Int)).toNat = p + 2 + f := by omega
  go_region_held3 (fun w' => w'.cell? ⟨w4.heap.size, 0, none⟩ = some (.slice (some ⟨g, 0, none⟩) n c4) ∧ w'.cell? ⟨w.heap.size + 1, 0, none⟩ = some (.int .i64 k) ∧ w'.cell? ⟨w.heap.size + 1, 1, none⟩ = some (.int .i64 m))
    (first | exact ⟨x0, y0, y1⟩ | exact ⟨x0', y0', y1'⟩ | exact ⟨far_cell x0' hn1, far_cell y0' hn2, far_cell y1' hn2⟩)
    (first | (go_at_call 55; refine (word_any k m _ (by omega) (by omega)).mono ?_; rintro e w6 ⟨rfl, hb6⟩; obtain ⟨⟨x0', x1', x2', x3', x4'⟩, ⟨y0', y1', y2', y3', y4'⟩, e5, e6, hg6⟩ := store_keep HX5.out HV5.out e3 e4 hg5 hb6))
  have hR6 : Box2 w6 (w.heap.size + 1 + 1) (.slice none 0 0) (.int .i64 0) := (HR4.out.next hb5).next hb6
  have hn3 : w.heap.size + 1 + 1 ≠ g := by have := HR3.out.lt; omega
  have HR6 := Lib.hide hR6
  obtain ⟨z0, z1, z2, z3, z4⟩ := hR6
  clear i1 i2 i3 i4 i5 x0 x1 x2 x3 x4 y0 y1 y2 y3 y4
  go_wp2
  exact bodyPost_ret (v := .tuple #[.agg #[.slice (some ⟨g, 0, none⟩) n c4, .int .i64 top], .int .i64 0]) (by simp only [results, Try.results18]; go_simp) rfl
    ⟨_, _, rfl, ownsRow_base ((((((HO4.out.below hb5).below hb6).stored (p + 2 + f) (wordOf k m)).far (by simp [Value.ownBlock]; omega) _).far (by simp [Value.ownBlock]; omega) _)) (Nat.le_of_lt s4), (by repeat (first | exact Below.refl _ _ | assumption | refine Below.drew ?_ | refine below_drewN ?_ _ | refine Below.allocs ?_ | refine Below.next ?_ (by assumption) | refine Below.setCell ?_ (by dsimp only; omega) _))⟩
end Go.Proofs.Ytpdcaoagpjcgbab

