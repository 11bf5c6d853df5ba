/-
  The walks of heap.hasField and heap.Load. It proves no statement by itself.
-/
import Derived.Test.YtpdcaoagpjcgbabPlacesWalks
set_option linter.unusedVariables false
set_option linter.unusedSimpArgs false
namespace Go.Proofs.Ytpdcaoagpjcgbab
open Go.RowKit

/-- There is an object at p, and it has a field n. -/
def HasField (xs : List Int) (l : List Nat) (p n : Int) : Prop := p ∈ nums l ∧ 0 ≤ n ∧ n < xs.getD (p.toNat + 1) 0

/-- Where the field lies. -/
theorem HasField.where {xs : List Int} {t : Nat} {l : List Nat} {p n : Int} (h : HasField xs l p n) (hl : Laid xs t l) : ∃ q k : Nat, p = q ∧ n = k ∧ q ∈ l ∧ 1 ≤ q ∧ q + 2 + k < t ∧ (k : Int) < xs.getD (q + 1) 0 ∧ xs.getD (q + 1) 0 ≤ 6 := by
  obtain ⟨h1, h2, h3⟩ := h
  simp [nums] at h1
  obtain ⟨q, hq, rfl⟩ := h1
  obtain ⟨k, rfl⟩ := Int.eq_ofNat_of_zero_le h2
  rw [Int.toNat_natCast] at h3
  obtain ⟨g1, f1, f2, f3, f4⟩ := hl.fit q hq
  exact ⟨q, k, rfl, rfl, hq, g1, by omega, h3, f3⟩

theorem mem_nums {l : List Nat} {q : Nat} : (q : Int) ∈ nums l ↔ q ∈ l := by
  unfold nums
  rw [List.mem_map]
  constructor
  · rintro ⟨r, hr, h⟩
    obtain rfl : r = q := by omega
    exact hr
  · intro h
    exact ⟨q, h, rfl⟩

theorem place_bounds {xs : List Int} {t : Nat} {l : List Nat} {p : Int} (h : p ∈ nums l) (hl : Laid xs t l) : ∃ q : Nat, p = q ∧ q + 2 ≤ t := by
  simp [nums] at h
  obtain ⟨q, hq, rfl⟩ := h
  exact ⟨q, rfl, (hl.fit q hq).2.1⟩

set_option maxHeartbeats 800000 in
theorem hasField_any (a : Option Addr) (m cap : Nat) (xs : List Int) (t : Nat) (top : Int) (l : List Nat) (a2 : Option Addr) (c2 : Nat) (p n : Int) (w : World) (hi : Ints w a xs) (hx : xs.length = m) (hm : m ≤ 400) (ht : t ≤ m)
    (hl : Laid xs t l) (hi2 : Ints w a2 (nums l)) (r : Bool) (hr : r = true ↔ HasField xs l p n) :
    Calls Try.prog 52 #[.agg #[.slice a m cap, .int .i64 top], .slice a2 l.length c2, .int .i64 p, .int .i64 n] w fun e w' => e = .returned (.bool r) ∧ Below w.heap.size w w' := by
  have hl4 : l.length ≤ 400 := by have := hl.short; omega
  have HI2 := Lib.hide hi2
  have HL := Lib.hide hl
  by_cases hp : p ∈ nums l
  · have C := Lib.hide (fun w' (h : Below w.heap.size w w') => isPlace_any a2 l.length c2 (nums l) p w' (HI2.out.below h) (nums_length l) hl4 (nums_sorted HL.out.sorted) true (decide_eq_true hp))
    by_cases hn : 0 ≤ n
    · obtain ⟨q, rfl, hq⟩ := place_bounds hp hl
      obtain ⟨b, o, rfl, hb, hc⟩ := hi.at (by omega)
      have e1 := hc (q + 1) (by omega)
      obtain ⟨f, hf⟩ : ∃ f, xs.getD (q + 1) 0 = f := ⟨_, rfl⟩
      rw [hf] at e1
      have hd : decide (n < f) = r := by
        rw [Bool.eq_iff_iff, hr]
        unfold HasField
        rw [Int.toNat_natCast, hf]
        simp [hp, hn]
      clear hi hx hl hi2 hr hp hc hf
      go_enter Try.func52, Try.ntmps52
      go_wp2_with (go_at_call 76; refine (C.out _ (by repeat (first | exact Below.refl _ _ | assumption | refine Below.drew ?_ | refine below_drewN ?_ _ | refine Below.allocs ?_ | refine Below.next ?_ (by assumption) | refine Below.setCell ?_ (by dsimp only; omega) _))).mono ?_; rintro e w' ⟨rfl, rfl⟩)
      go_ret
      exact ⟨rfl, (by repeat (first | exact Below.refl _ _ | assumption | refine Below.drew ?_ | refine below_drewN ?_ _ | refine Below.allocs ?_ | refine Below.next ?_ (by assumption) | refine Below.setCell ?_ (by dsimp only; omega) _))⟩
    · obtain rfl : r = false := by
        cases r
        · rfl
        · exact absurd (hr.1 rfl).2.1 hn
      have hd : decide (0 ≤ n) = false := by simpa using hn
      clear hi hx hl hi2 hr hp
      go_enter Try.func52, Try.ntmps52
      go_wp2_with (go_at_call 76; refine (C.out _ (by repeat (first | exact Below.refl _ _ | assumption | refine Below.drew ?_ | refine below_drewN ?_ _ | refine Below.allocs ?_ | refine Below.next ?_ (by assumption) | refine Below.setCell ?_ (by dsimp only; omega) _))).mono ?_; rintro e w' ⟨rfl, rfl⟩)
      go_ret
      exact ⟨rfl, (by repeat (first | exact Below.refl _ _ | assumption | refine Below.drew ?_ | refine below_drewN ?_ _ | refine Below.allocs ?_ | refine Below.next ?_ (by assumption) | refine Below.setCell ?_ (by dsimp only; omega) _))⟩
  · obtain rfl : r = false := by
      cases r
      · rfl
      · exact absurd (hr.1 rfl).1 hp
    have C := Lib.hide (fun w' (h : Below w.heap.size w w') => isPlace_any a2 l.length c2 (nums l) p w' (HI2.out.below h) (nums_length l) hl4 (nums_sorted HL.out.sorted) false (decide_eq_false hp))
    clear hi hx hl hi2 hr hp
    go_enter Try.func52, Try.ntmps52
    go_wp2_with (go_at_call 76; refine (C.out _ (by repeat (first | exact Below.refl _ _ | assumption | refine Below.drew ?_ | refine below_drewN ?_ _ | refine Below.allocs ?_ | refine Below.next ?_ (by assumption) | refine Below.setCell ?_ (by dsimp only; omega) _))).mono ?_; rintro e w' ⟨rfl, rfl⟩)
    go_ret
    exact ⟨rfl, (by repeat (first | exact Below.refl _ _ | assumption | refine Below.drew ?_ | refine below_drewN ?_ _ | refine Below.allocs ?_ | refine Below.next ?_ (by assumption) | refine Below.setCell ?_ (by dsimp only; omega) _))⟩

/-- Two boxes of two cells each, laid by a call at its start, are as they were behind a callee. -/
structure TwoBoxes (w w1 : World) (x0 x1 y0 y1 : Value) : Prop where
  a0 : w1.cell? ⟨w.heap.size, 0, none⟩ = some x0
  a1 : w1.cell? ⟨w.heap.size, 1, none⟩ = some x1
  b0 : w1.cell? ⟨w.heap.size + 1, 0, none⟩ = some y0
  b1 : w1.cell? ⟨w.heap.size + 1, 1, none⟩ = some y1
  f0 : w1.frozen? ⟨w.heap.size + 1, 0, none⟩ = false
  f1 : w1.frozen? ⟨w.heap.size + 1, 1, none⟩ = false
  lt : w.heap.size + 1 < w1.heap.size
  lt0 : w.heap.size < w1.heap.size

theorem TwoBoxes.start (w : World) (x0 x1 y0 y1 : Value) (t u : TypeId) : TwoBoxes w ((w.alloc (.cells #[x0, x1] t)).alloc (.cells #[y0, y1] u)) x0 x1 y0 y1 := by
  constructor <;> go_simp

theorem TwoBoxes.next {w w1 w2 : World} {x0 x1 y0 y1 : Value} (h : TwoBoxes w w1 x0 x1 y0 y1) (hb : Below w1.heap.size w1 w2) : TwoBoxes w w2 x0 x1 y0 y1 := by
  have hlt := h.lt
  exact ⟨(hb.cell (p := ⟨w.heap.size, 0, none⟩) (by show w.heap.size < _; omega)).trans h.a0, (hb.cell (p := ⟨w.heap.size, 1, none⟩) (by show w.heap.size < _; omega)).trans h.a1,
    (hb.cell (p := ⟨w.heap.size + 1, 0, none⟩) hlt).trans h.b0, (hb.cell (p := ⟨w.heap.size + 1, 1, none⟩) hlt).trans h.b1,
    (hb.frozen (p := ⟨w.heap.size + 1, 0, none⟩) hlt).trans h.f0, (hb.frozen (p := ⟨w.heap.size + 1, 1, none⟩) hlt).trans h.f1, Nat.lt_of_lt_of_le hlt hb.size, Nat.lt_of_lt_of_le h.lt0 hb.size⟩

/-- A value and an error. -/
def LoadPost (w : World) (k m c : Int) (e : Ending) (w' : World) : Prop := e = .returned (.tuple #[.agg #[.int .i64 k, .int .i64 m], .int .i64 c]) ∧ Below w.heap.size w w'

set_option maxHeartbeats 800000 in
open Lw in
theorem load_bad (a : Option Addr) (n cap : Nat) (xs : List Int) (top p f : Int) (w : World) (hh : IsHeap w a n cap xs top) (hv : ∀ l, ¬ Valid xs top l) :
    Calls Try.prog 19 #[.agg #[.slice a n cap, .int .i64 top], .int .i64 p, .int .i64 f] w (LoadPost w 0 0 5) := by
  have H := Lib.hide hh
  have HV := Lib.hide hv
  clear hh hv
  go_enter Try.func19, Try.ntmps19
  go_wp2_with (go_at_call 16; refine (places_no a n cap xs top _ (H.out.below (by repeat (first | exact Below.refl _ _ | assumption | refine Below.drew ?_ | refine below_drewN ?_ _ | refine Below.allocs ?_ | refine Below.next ?_ (by assumption) | refine Below.setCell ?_ (by dsimp only; omega) _))) HV.out).mono ?_; rintro e w1 ⟨rfl, hb1⟩; obtain ⟨q1, q2, q3, q4, q5, q6, q7, q8⟩ := (TwoBoxes.start w _ _ _ _ _ _).next hb1)
  exact bodyPost_ret (v := .tuple #[.agg #[.int .i64 0, .int .i64 0], .int .i64 5]) (by simp [results, Try.results19, go_sem, q3, q4]) rfl ⟨rfl, (by repeat (first | exact Below.refl _ _ | assumption | refine Below.drew ?_ | refine below_drewN ?_ _ | refine Below.allocs ?_ | refine Below.next ?_ (by assumption) | refine Below.setCell ?_ (by dsimp only; omega) _))⟩

set_option maxHeartbeats 800000 in
open Lw in
theorem load_none (a : Option Addr) (n cap : Nat) (xs : List Int) (top p f : Int) (l : List Nat) (w : World) (hh : IsHeap w a n cap xs top) (hv : Valid xs top l) (hf : ¬ HasField xs l p f) :
    Calls Try.prog 19 #[.agg #[.slice a n cap, .int .i64 top], .int .i64 p, .int .i64 f] w (LoadPost w 0 0 4) := by
  have hx := hh.len
  have v2 := hv.len2
  have v3 := hv.top1
  have v4 := hv.top2
  rw [hx] at v2 v4
  have hl := Objects.laid hv.objects
  have ht : top.toNat ≤ n := by omega
  have H := Lib.hide hh
  have HX := Lib.hide hx
  have HV := Lib.hide hv
  have HL := Lib.hide hl
  have HF := Lib.hide hf
  clear hh hx hv hl hf
  go_enter Try.func19, Try.ntmps19
  go_wp2_with (first
    | (go_at_call 16; refine (places_yes a n cap xs top l _ (H.out.below (by repeat (first | exact Below.refl _ _ | assumption | refine Below.drew ?_ | refine below_drewN ?_ _ | refine Below.allocs ?_ | refine Below.next ?_ (by assumption) | refine Below.setCell ?_ (by dsimp only; omega) _))) HV.out).mono ?_; rintro e w1 ⟨a1, c1, rfl, ho1, hb1⟩; have HO1 := Lib.hide ho1; clear ho1; have HT := Lib.hide ((TwoBoxes.start w _ _ _ _ _ _).next hb1); obtain ⟨q1, q2, q3, q4, q5, q6, q7, q8⟩ := HT.out)
    | (go_at_call 52; refine (hasField_any a n cap xs top.toNat top l a1 c1 p f _ (H.out.ints.below (by repeat (first | exact Below.refl _ _ | assumption | refine Below.drew ?_ | refine below_drewN ?_ _ | refine Below.allocs ?_ | refine Below.next ?_ (by assumption) | refine Below.setCell ?_ (by dsimp only; omega) _))) HX.out v2 ht HL.out (HO1.out.reads.2.below (by repeat (first | exact Below.refl _ _ | assumption | refine Below.drew ?_ | refine below_drewN ?_ _ | refine Below.allocs ?_ | refine Below.next ?_ (by assumption) | refine Below.setCell ?_ (by dsimp only; omega) _))) false (by simp [HF.out])).mono ?_; rintro e w2 ⟨rfl, hb2⟩; obtain ⟨r1, r2, r3, r4, r5, r6, r7, r8⟩ := HT.out.next hb2))
  exact bodyPost_ret (v := .tuple #[.agg #[.int .i64 0, .int .i64 0], .int .i64 4]) (by simp [results, Try.results19, go_sem, r3, r4]) rfl ⟨rfl, (by repeat (first | exact Below.refl _ _ | assumption | refine Below.drew ?_ | refine below_drewN ?_ _ | refine Below.allocs ?_ | refine Below.next ?_ (by assumption) | refine Below.setCell ?_ (by dsimp only; omega) _))⟩

set_option maxHeartbeats 800000 in
open Lw in
theorem load_yes (a : Option Addr) (n cap : Nat) (xs : List Int) (top p f : Int) (l : List Nat) (w : World) (hh : IsHeap w a n cap xs top) (hv : Valid xs top l) (hf : HasField xs l p f) (y : Int) (hy : xs.getD (p.toNat + 2 + f.toNat) 0 = y) :
    Calls Try.prog 19 #[.agg #[.slice a n cap, .int .i64 top], .int .i64 p, .int .i64 f] w (LoadPost w (y % 2) (y / 2) 0) := by
  have hx := hh.len
  have v2 := hv.len2
  have v3 := hv.top1
  have v4 := hv.top2
  rw [hx] at v2 v4
  have hl := Objects.laid hv.objects
  have ht : top.toNat ≤ n := by omega
  obtain ⟨q, k, rfl, rfl, hq, g1, g2, g3, g4⟩ := hf.where hl
  rw [Int.toNat_natCast, Int.toNat_natCast] at hy
  have hyf : Fits y := by
    rw [← hy]
    have h : q + 2 + k < xs.length := by omega
    have : xs.getD (q + 2 + k) 0 = xs[q + 2 + k] := by simp [List.getD_eq_getElem?_getD, List.getElem?_eq_getElem h]
    rw [this]
    exact hh.fits _ (List.getElem_mem h)
  have H := Lib.hide hh
  have HX := Lib.hide hx
  have HV := Lib.hide hv
  have HL := Lib.hide hl
  have HF := Lib.hide hf
  have HY := Lib.hide hy
  have HYF := Lib.hide hyf
  clear hh hx hv hl hf hy hyf g3 hq
  go_enter Try.func19, Try.ntmps19
  go_wp2_with (first
    | (go_at_call 16; refine (places_yes a n cap xs top l _ (H.out.below (by repeat (first | exact Below.refl _ _ | assumption | refine Below.drew ?_ | refine below_drewN ?_ _ | refine Below.allocs ?_ | refine Below.next ?_ (by assumption) | refine Below.setCell ?_ (by dsimp only; omega) _))) HV.out).mono ?_; rintro e w1 ⟨a1, c1, rfl, ho1, hb1⟩; have HO1 := Lib.hide ho1; clear ho1; have HT := Lib.hide ((TwoBoxes.start w _ _ _ _ _ _).next hb1); obtain ⟨q1, q2, q3, q4, q5, q6, q7, q8⟩ := HT.out)
    | (go_at_call 52; refine (hasField_any a n cap xs top.toNat top l a1 c1 q k _ (H.out.ints.below (by repeat (first | exact Below.refl _ _ | assumption | refine Below.drew ?_ | refine below_drewN ?_ _ | refine Below.allocs ?_ | refine Below.next ?_ (by assumption) | refine Below.setCell ?_ (by dsimp only; omega) _))) HX.out v2 ht HL.out (HO1.out.reads.2.below (by repeat (first | exact Below.refl _ _ | assumption | refine Below.drew ?_ | refine below_drewN ?_ _ | refine Below.allocs ?_ | refine Below.next ?_ (by assumption) | refine Below.setCell ?_ (by dsimp only; omega) _))) true (by simp [HF.out])).mono ?_; rintro e w2 ⟨rfl, hb2⟩; have HT2 := Lib.hide (HT.out.next hb2); obtain ⟨r1, r2, r3, r4, r5, r6, r7, r8⟩ := HT2.out; obtain ⟨bb, oo, he, hlt, hcc⟩ := (H.out.ints.below (w' := w2) (by repeat (first | exact Below.refl _ _ | assumption | refine Below.drew ?_ | refine below_drewN ?_ _ | refine Below.allocs ?_ | refine Below.next ?_ (by assumption) | refine Below.setCell ?_ (by dsimp only; omega) _))).at (by rw [HX.out]; omega); have e1 := hcc (q + 2 + k) (by rw [HX.out]; omega); rw [HY.out] at e1; clear hcc; subst he)
    | (go_at_call 26; refine (of_any y _ HYF.out).mono ?_; rintro e w3 ⟨rfl, hb3⟩; obtain ⟨s1, s2, s3, s4, s5, s6, s7, s8⟩ := HT2.out.next hb3))
  exact bodyPost_ret (v := .tuple #[.agg #[.int .i64 (y % 2), .int .i64 (y / 2)], .int .i64 0]) (by simp [results, Try.results19, go_sem, s3, s4]) rfl ⟨rfl, (by repeat (first | exact Below.refl _ _ | assumption | refine Below.drew ?_ | refine below_drewN ?_ _ | refine Below.allocs ?_ | refine Below.next ?_ (by assumption) | refine Below.setCell ?_ (by dsimp only; omega) _))⟩

end Go.Proofs.Ytpdcaoagpjcgbab
