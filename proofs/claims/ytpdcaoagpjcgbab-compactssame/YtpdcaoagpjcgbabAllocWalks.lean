/-
  The walks of heap.Alloc and the reference's AllocOf. It proves no statement by itself.
-/
import Derived.Test.YtpdcaoagpjcgbabLoadWalks
import Derived.RegionTactic
set_option linter.unusedVariables false
set_option linter.unusedSimpArgs false
namespace Go.Proofs.Ytpdcaoagpjcgbab
open Go.RowKit

/-- A heap in new memory, a number and no error. -/
def AllocPost (w : World) (xs : List Int) (n : Nat) (top p : Int) (e : Ending) (w' : World) : Prop :=
  ∃ a cap, e = .returned (.tuple #[.agg #[.slice a n cap, .int .i64 top], .int .i64 p, .int .i64 0]) ∧ Own w' w.heap.size (.slice a n cap) xs ∧ Below w.heap.size w w'

/-- No heap, and an error. -/
def AllocNo (w : World) (c : Int) (e : Ending) (w' : World) : Prop := e = .returned (.tuple #[.agg #[.slice none 0 0, .int .i64 0], .int .i64 0, .int .i64 c]) ∧ Below w.heap.size w w'

/-- A row of the call's own, at its block. -/
theorem Own.row {w : World} {base n c : Nat} {a : Option Addr} {xs : List Int} (h : Own w base (.slice a n c) xs) (h0 : 0 < n) : ∃ g, a = some ⟨g, 0, none⟩ ∧ base ≤ g ∧ g < w.heap.size ∧ (∀ i, i < n → w.cell? ⟨g, i, none⟩ = some (.int .i64 (xs.getD i 0))) ∧ ∀ i, w.frozen? ⟨g, i, none⟩ = false := by
  obtain ⟨hn, _⟩ := h.reads
  subst hn
  rcases h.2 with ⟨e, h1⟩ | ⟨g, cap, cur, e, hb, hg, _⟩
  · omega
  · injection e with e1 e2 e3
    subst e1
    subst e3
    refine ⟨g, rfl, hb, ?_, fun i hi => ?_, fun i => World.ownsRow.frozenAt h i⟩
    · rcases Nat.lt_or_ge g w.heap.size with h' | h'
      · exact h'
      · rw [Array.getElem?_eq_none h'] at hg; cases hg
    · have := World.ownsRow.cellAt h i (by omega)
      rw [this]
      simp [List.getD_eq_getElem?_getD, List.getElem?_eq_getElem hi]

theorem Own.stored {w : World} {base n c g : Nat} {xs : List Int} (h : Own w base (.slice (some ⟨g, 0, none⟩) n c) xs) (i : Nat) (y : Int) : Own (w.setCell ⟨g, i, none⟩ (.int .i64 y)) base (.slice (some ⟨g, 0, none⟩) n c) (xs.set i y) := by
  obtain ⟨hn, _⟩ := h.reads
  subst hn
  have := (World.ownsRow.stored h i (.int .i64 y)).1
  unfold Own
  rw [List.length_set, List.map_set]
  exact this

theorem Own.far {w : World} {base : Nat} {v : Value} {xs : List Int} (h : Own w base v xs) {p : Addr} (hp : v.ownBlock ≠ some p.block) (u : Value) : Own (w.setCell p u) base v xs := by
  refine ⟨h.1, ?_⟩
  rcases h.2 with h2 | ⟨g, cap, cur, hv, hg, hh, r⟩
  · exact .inl h2
  · refine .inr ⟨g, cap, cur, hv, hg, ?_, r⟩
    rw [Below.heap_setCell _ _ _ _ (fun e => hp (by rw [hv]; simp [Value.ownBlock, e]))]
    exact hh

theorem Own.isHeap {w : World} {base n c : Nat} {a : Option Addr} {xs : List Int} {top : Int} (h : Own w base (.slice a n c) xs) (hf : ∀ x ∈ xs, Fits x) (ht : Fits top) : IsHeap w a n c xs top := by
  obtain ⟨h1, h2⟩ := h.reads
  have hc : n ≤ c ∧ c ≤ 9223372036854775807 := by
    rcases h.2 with ⟨e, h3⟩ | ⟨g, cap, cur, e, _, _, h3, h4, _⟩
    · injection e with e1 e2 e3
      omega
    · injection e with e1 e2 e3
      unfold maxLen at h4
      omega
  exact ⟨h2, h1, hc.1, hc.2, hf, ht⟩

theorem fits_small {n : Int} (h1 : -1000000 ≤ n) (h2 : n ≤ 1000000) : Fits n := ⟨by omega, by omega⟩

theorem fits_set {xs : List Int} {i : Nat} {y : Int} (h : ∀ x ∈ xs, Fits x) (hy : Fits y) : ∀ x ∈ xs.set i y, Fits x := by
  intro x hx
  rcases List.mem_or_eq_of_mem_set hx with h' | h'
  · exact h x h'
  · rw [h']; exact hy

theorem Own.allocs {w : World} {base : Nat} {v : Value} {xs : List Int} (h : Own w base v xs) (o : Obj) : Own (w.alloc o) base v xs := World.ownsRow.alloc h o
theorem Own.drews {w : World} {base : Nat} {v : Value} {xs : List Int} (h : Own w base v xs) : Own w.drew base v xs := h

set_option maxHeartbeats 1600000 in
open Lw in
theorem alloc_yes (a : Option Addr) (n cap : Nat) (xs : List Int) (t f : Nat) (l : List Nat) (w : World) (hh : IsHeap w a n cap xs t) (hv : Valid xs t l) (hf : f ≤ 6) (hfit : t + 2 + f ≤ n) :
    Calls Try.prog 23 #[.agg #[.slice a n cap, .int .i64 t], .int .i64 f] w (AllocPost w (xs.set (t + 1) f) n ((t : Int) + (2 + f)) t) := by
  have hx := hh.len
  have v2 := hv.len2
  have v3 := hv.top1
  rw [hx] at v2
  have H := Lib.hide hh
  have HX := Lib.hide hx
  have HV := Lib.hide hv
  clear hh hx hv
  go_enter Try.func23, Try.ntmps23
  go_wp2_with (first
    | (go_at_call 21; refine (check_yes a n cap xs t l _ (H.out.below (by repeat (first | exact Below.refl _ _ | assumption | refine Below.drew ?_ | refine below_drewN ?_ _ | refine Below.allocs ?_ | refine Below.next ?_ (by assumption) | refine Below.setCell ?_ (by dsimp only; omega) _))) HV.out).mono ?_; rintro e w1 ⟨rfl, hb1⟩; have HT := Lib.hide ((TwoBoxes.start w _ _ _ _ _ _).next hb1); obtain ⟨q1, q2, q3, q4, q5, q6, q7, q8⟩ := HT.out)
    | (go_at_call 54; refine (copy_any a n cap xs t _ (H.out.ints.below (by repeat (first | exact Below.refl _ _ | assumption | refine Below.drew ?_ | refine below_drewN ?_ _ | refine Below.allocs ?_ | refine Below.next ?_ (by assumption) | refine Below.setCell ?_ (by dsimp only; omega) _))) HX.out (by omega)).mono ?_; rintro e w2 ⟨a2, c2, rfl, ho2, hb2⟩; have HT2 := Lib.hide (HT.out.next hb2); obtain ⟨r1, r2, r3, r4, r5, r6, r7, r8⟩ := HT2.out; obtain ⟨g, he, hg1, hg2, hgc, hgf⟩ := ho2.row (by omega); subst he; have HO2 := Lib.hide ho2; clear ho2; have e1 := hgc (t + 1) (by omega); have e2 := hgf (t + 1); have hg3 : w.heap.size < g := Nat.lt_of_lt_of_le q8 hg1; have hg4 : w.heap.size + 1 < g := Nat.lt_of_lt_of_le q7 hg1; clear hgc hgf))
  go_region
  go_wp2
  exact bodyPost_ret (v := .tuple #[.agg #[.slice (some ⟨g, 0, none⟩) n c2, .int .i64 ((t : Int) + (2 + f))], .int .i64 t, .int .i64 0]) (by simp only [results, Try.results23]; go_simp) rfl
    ⟨_, _, rfl, ownsRow_base ((((HO2.out.stored (t + 1) f).far (by simp [Value.ownBlock]; omega) _).far (by simp [Value.ownBlock]; omega) _).allocs _).drews (Nat.le_of_lt q8), (by repeat (first | exact Below.refl _ _ | assumption | refine Below.drew ?_ | refine below_drewN ?_ _ | refine Below.allocs ?_ | refine Below.next ?_ (by assumption) | refine Below.setCell ?_ (by dsimp only; omega) _))⟩

set_option maxHeartbeats 1600000 in
open Lw in
theorem alloc_no (a : Option Addr) (n cap : Nat) (xs : List Int) (top f : Int) (w : World) (hh : IsHeap w a n cap xs top) (hv : ∀ l, ¬ Valid xs top l) :
    Calls Try.prog 23 #[.agg #[.slice a n cap, .int .i64 top], .int .i64 f] w (AllocNo w 5) := by
  have H := Lib.hide hh
  have HV := Lib.hide hv
  clear hh hv
  go_enter Try.func23, Try.ntmps23
  go_wp2_with (go_at_call 21; refine (check_no a n cap xs top _ (H.out.below (by repeat (first | exact Below.refl _ _ | assumption | refine Below.drew ?_ | refine below_drewN ?_ _ | refine Below.allocs ?_ | refine Below.next ?_ (by assumption) | refine Below.setCell ?_ (by dsimp only; omega) _))) HV.out).mono ?_; rintro e w1 ⟨rfl, hb1⟩; obtain ⟨q1, q2, q3, q4, q5, q6, q7, q8⟩ := (TwoBoxes.start w _ _ _ _ _ _).next hb1)
  exact bodyPost_ret (v := .tuple #[.agg #[.slice none 0 0, .int .i64 0], .int .i64 0, .int .i64 5]) (by simp [results, Try.results23, go_sem, q3, q4]) rfl ⟨rfl, (by repeat (first | exact Below.refl _ _ | assumption | refine Below.drew ?_ | refine below_drewN ?_ _ | refine Below.allocs ?_ | refine Below.next ?_ (by assumption) | refine Below.setCell ?_ (by dsimp only; omega) _))⟩

set_option maxHeartbeats 1600000 in
open Lw in
theorem alloc_range (a : Option Addr) (n cap : Nat) (xs : List Int) (top f : Int) (l : List Nat) (w : World) (hh : IsHeap w a n cap xs top) (hv : Valid xs top l) (hf : f < 0 ∨ 6 < f) :
    Calls Try.prog 23 #[.agg #[.slice a n cap, .int .i64 top], .int .i64 f] w (AllocNo w 2) := by
  have H := Lib.hide hh
  have HV := Lib.hide hv
  clear hh hv
  by_cases h1 : f < 0
  · clear hf
    go_enter Try.func23, Try.ntmps23
    go_wp2_with (go_at_call 21; refine (check_yes a n cap xs top l _ (H.out.below (by repeat (first | exact Below.refl _ _ | assumption | refine Below.drew ?_ | refine below_drewN ?_ _ | refine Below.allocs ?_ | refine Below.next ?_ (by assumption) | refine Below.setCell ?_ (by dsimp only; omega) _))) HV.out).mono ?_; rintro e w1 ⟨rfl, hb1⟩; obtain ⟨q1, q2, q3, q4, q5, q6, q7, q8⟩ := (TwoBoxes.start w _ _ _ _ _ _).next hb1)
    exact bodyPost_ret (v := .tuple #[.agg #[.slice none 0 0, .int .i64 0], .int .i64 0, .int .i64 2]) (by simp [results, Try.results23, go_sem, q3, q4]) rfl ⟨rfl, (by repeat (first | exact Below.refl _ _ | assumption | refine Below.drew ?_ | refine below_drewN ?_ _ | refine Below.allocs ?_ | refine Below.next ?_ (by assumption) | refine Below.setCell ?_ (by dsimp only; omega) _))⟩
  · have h2 : 6 < f := by omega
    clear hf
    go_enter Try.func23, Try.ntmps23
    go_wp2_with (go_at_call 21; refine (check_yes a n cap xs top l _ (H.out.below (by repeat (first | exact Below.refl _ _ | assumption | refine Below.drew ?_ | refine below_drewN ?_ _ | refine Below.allocs ?_ | refine Below.next ?_ (by assumption) | refine Below.setCell ?_ (by dsimp only; omega) _))) HV.out).mono ?_; rintro e w1 ⟨rfl, hb1⟩; obtain ⟨q1, q2, q3, q4, q5, q6, q7, q8⟩ := (TwoBoxes.start w _ _ _ _ _ _).next hb1)
    exact bodyPost_ret (v := .tuple #[.agg #[.slice none 0 0, .int .i64 0], .int .i64 0, .int .i64 2]) (by simp [results, Try.results23, go_sem, q3, q4]) rfl ⟨rfl, (by repeat (first | exact Below.refl _ _ | assumption | refine Below.drew ?_ | refine below_drewN ?_ _ | refine Below.allocs ?_ | refine Below.next ?_ (by assumption) | refine Below.setCell ?_ (by dsimp only; omega) _))⟩

set_option maxHeartbeats 1600000 in
open Lw in
theorem alloc_full (a : Option Addr) (n cap : Nat) (xs : List Int) (t f : Nat) (l : List Nat) (w : World) (hh : IsHeap w a n cap xs t) (hv : Valid xs t l) (hf : f ≤ 6) (hfit : n < t + 2 + f) :
    Calls Try.prog 23 #[.agg #[.slice a n cap, .int .i64 t], .int .i64 f] w (AllocNo w 1) := by
  have hx := hh.len
  have v2 := hv.len2
  have v4 := hv.top2
  rw [hx] at v2 v4
  have H := Lib.hide hh
  have HV := Lib.hide hv
  clear hh hv hx
  go_enter Try.func23, Try.ntmps23
  go_wp2_with (go_at_call 21; refine (check_yes a n cap xs t l _ (H.out.below (by repeat (first | exact Below.refl _ _ | assumption | refine Below.drew ?_ | refine below_drewN ?_ _ | refine Below.allocs ?_ | refine Below.next ?_ (by assumption) | refine Below.setCell ?_ (by dsimp only; omega) _))) HV.out).mono ?_; rintro e w1 ⟨rfl, hb1⟩; obtain ⟨q1, q2, q3, q4, q5, q6, q7, q8⟩ := (TwoBoxes.start w _ _ _ _ _ _).next hb1)
  exact bodyPost_ret (v := .tuple #[.agg #[.slice none 0 0, .int .i64 0], .int .i64 0, .int .i64 1]) (by simp [results, Try.results23, go_sem, q3, q4]) rfl ⟨rfl, (by repeat (first | exact Below.refl _ _ | assumption | refine Below.drew ?_ | refine below_drewN ?_ _ | refine Below.allocs ?_ | refine Below.next ?_ (by assumption) | refine Below.setCell ?_ (by dsimp only; omega) _))⟩
end Go.Proofs.Ytpdcaoagpjcgbab
