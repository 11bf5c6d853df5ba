/-
  The walks of the reference's LoadOf. It proves no statement by itself.
-/
import Derived.Test.YtpdcaoagpjcgbaaLoadWalks
import Derived.Test.YtpdcaoagpjcgbaaMayWalks
namespace Go.Proofs.Ytpdcaoagpjcgbaa
open Go.RowKit

set_option maxHeartbeats 800000 in
open Lw in
theorem loadOf_bad (a : Option Addr) (n cap : Nat) (xs : List Int) (top p f : Int) (w : World) (hh : IsHeap w a n cap xs top) (hv : ∀ l, ¬ Valid xs top l) :
    Calls Try.prog 28 #[.agg #[.slice a n cap, .int .i64 top], .int .i64 p, .int .i64 f] w (LoadPost w 0 0 5) := by
  have H := Lib.hide hh
  have HV := Lib.hide hv
  clear hh hv
  go_enter Try.func28, Try.ntmps28
  go_wp2_with (go_at_call 22; refine (placesOfRef_no a n cap xs top _ (H.out.below (by repeat (first | exact Below.refl _ _ | assumption | refine Below.drew ?_ | refine below_drewN ?_ _ | refine Below.allocs ?_ | refine Below.next ?_ (by assumption) | refine Below.setCell ?_ (by dsimp only; omega) _))) HV.out).mono ?_; rintro e w1 ⟨rfl, hb1⟩; obtain ⟨q1, q2, q3, q4, q5, q6, q7, q8⟩ := (TwoBoxes.start w _ _ _ _ _ _).next hb1)
  exact bodyPost_ret (v := .tuple #[.agg #[.int .i64 0, .int .i64 0], .int .i64 5]) (by simp [results, Try.results28, go_sem, q3, q4]) rfl ⟨rfl, (by repeat (first | exact Below.refl _ _ | assumption | refine Below.drew ?_ | refine below_drewN ?_ _ | refine Below.allocs ?_ | refine Below.next ?_ (by assumption) | refine Below.setCell ?_ (by dsimp only; omega) _))⟩

set_option maxHeartbeats 800000 in
open Lw in
theorem loadOf_none (a : Option Addr) (n cap : Nat) (xs : List Int) (top p f : Int) (l : List Nat) (w : World) (hh : IsHeap w a n cap xs top) (hv : Valid xs top l) (hf : ¬ HasField xs l p f) :
    Calls Try.prog 28 #[.agg #[.slice a n cap, .int .i64 top], .int .i64 p, .int .i64 f] w (LoadPost w 0 0 4) := by
  have hx := hh.len
  have v2 := hv.len2
  have v3 := hv.top1
  have v4 := hv.top2
  rw [hx] at v2 v4
  have hl := Objects.laid hv.objects
  have ht : top.toNat ≤ n := by omega
  have hl4 : l.length ≤ 400 := by have := hl.short; omega
  have H := Lib.hide hh
  have HX := Lib.hide hx
  have HV := Lib.hide hv
  by_cases hp : p ∈ nums l
  · obtain ⟨q, rfl, hq⟩ := place_bounds hp hl
    obtain ⟨g, hg⟩ : ∃ g, xs.getD (q + 1) 0 = g := ⟨_, rfl⟩
    have hgb : 0 ≤ g ∧ g ≤ 6 := by
      have := (hl.fit q (mem_nums.1 hp)).2
      rw [← hg]
      exact ⟨this.2.1, this.2.2.1⟩
    obtain ⟨g1, g2⟩ := hgb
    have hno : ¬ (0 ≤ f ∧ f ≤ g - 1) := fun h => hf ⟨hp, h.1, by rw [Int.toNat_natCast, hg]; omega⟩
    have HNO := Lib.hide hno
    have HP := Lib.hide hp
    have HG := Lib.hide hg
    clear hh hx hv hl hf hp hg hno
    go_enter Try.func28, Try.ntmps28
    go_wp2_with (first
      | (go_at_call 22; refine (placesOfRef_yes a n cap xs top l _ (H.out.below (by repeat (first | exact Below.refl _ _ | assumption | refine Below.drew ?_ | refine below_drewN ?_ _ | refine Below.allocs ?_ | refine Below.next ?_ (by assumption) | refine Below.setCell ?_ (by dsimp only; omega) _))) HV.out).mono ?_; rintro e w1 ⟨a1, c1, rfl, ho1, hb1⟩; have HO1 := Lib.hide ho1; clear ho1; obtain ⟨q1, q2, q3, q4, q5, q6, q7, q8⟩ := (TwoBoxes.start w _ _ _ _ _ _).next hb1; obtain ⟨bb, oo, he, hlt, hcc⟩ := (H.out.ints.below (w' := w1) (by repeat (first | exact Below.refl _ _ | assumption | refine Below.drew ?_ | refine below_drewN ?_ _ | refine Below.allocs ?_ | refine Below.next ?_ (by assumption) | refine Below.setCell ?_ (by dsimp only; omega) _))).at (by rw [HX.out]; omega); have e1 := hcc (q + 1) (by rw [HX.out]; omega); rw [HG.out] at e1; clear hcc; subst he)
      | (go_at_call 42; refine (has_any a1 l.length c1 (nums l) q _ HO1.out.reads.2 (nums_length l) (by omega) true (decide_eq_true HP.out)).mono ?_; rintro e w2 ⟨rfl, rfl⟩)
      | (go_at_call 39; refine (in_no _ _ _ _ HNO.out).mono ?_; rintro e w2 ⟨rfl, rfl⟩))
    exact bodyPost_ret (v := .tuple #[.agg #[.int .i64 0, .int .i64 0], .int .i64 4]) (by simp [results, Try.results28, go_sem, q3, q4]) rfl ⟨rfl, (by repeat (first | exact Below.refl _ _ | assumption | refine Below.drew ?_ | refine below_drewN ?_ _ | refine Below.allocs ?_ | refine Below.next ?_ (by assumption) | refine Below.setCell ?_ (by dsimp only; omega) _))⟩
  · have HP := Lib.hide hp
    clear hh hx hv hl hf hp
    go_enter Try.func28, Try.ntmps28
    go_wp2_with (first
      | (go_at_call 22; refine (placesOfRef_yes a n cap xs top l _ (H.out.below (by repeat (first | exact Below.refl _ _ | assumption | refine Below.drew ?_ | refine below_drewN ?_ _ | refine Below.allocs ?_ | refine Below.next ?_ (by assumption) | refine Below.setCell ?_ (by dsimp only; omega) _))) HV.out).mono ?_; rintro e w1 ⟨a1, c1, rfl, ho1, hb1⟩; have HO1 := Lib.hide ho1; clear ho1; obtain ⟨q1, q2, q3, q4, q5, q6, q7, q8⟩ := (TwoBoxes.start w _ _ _ _ _ _).next hb1)
      | (go_at_call 42; refine (has_any a1 l.length c1 (nums l) p _ HO1.out.reads.2 (nums_length l) (by omega) false (decide_eq_false HP.out)).mono ?_; rintro e w2 ⟨rfl, rfl⟩))
    exact bodyPost_ret (v := .tuple #[.agg #[.int .i64 0, .int .i64 0], .int .i64 4]) (by simp [results, Try.results28, go_sem, q3, q4]) rfl ⟨rfl, (by repeat (first | exact Below.refl _ _ | assumption | refine Below.drew ?_ | refine below_drewN ?_ _ | refine Below.allocs ?_ | refine Below.next ?_ (by assumption) | refine Below.setCell ?_ (by dsimp only; omega) _))⟩

set_option maxHeartbeats 800000 in
open Lw in
theorem loadOf_yes (a : Option Addr) (n cap : Nat) (xs : List Int) (top p f : Int) (l : List Nat) (w : World) (hh : IsHeap w a n cap xs top) (hv : Valid xs top l) (hf : HasField xs l p f) (y : Int) (hy : xs.getD (p.toNat + 2 + f.toNat) 0 = y) :
    Calls Try.prog 28 #[.agg #[.slice a n cap, .int .i64 top], .int .i64 p, .int .i64 f] w (LoadPost w (y % 2) (y / 2) 0) := by
  have hx := hh.len
  have v2 := hv.len2
  have v3 := hv.top1
  have v4 := hv.top2
  rw [hx] at v2 v4
  have hl := Objects.laid hv.objects
  have ht : top.toNat ≤ n := by omega
  have hl4 : l.length ≤ 400 := by have := hl.short; omega
  obtain ⟨q, k, rfl, rfl, hq, g1, g2, g3, g4⟩ := hf.where hl
  rw [Int.toNat_natCast, Int.toNat_natCast] at hy
  have hyf : Fits y := by
    rw [← hy]
    have h : q + 2 + k < xs.length := by omega
    have : xs.getD (q + 2 + k) 0 = xs[q + 2 + k] := by simp [List.getD_eq_getElem?_getD, List.getElem?_eq_getElem h]
    rw [this]
    exact hh.fits _ (List.getElem_mem h)
  obtain ⟨g, hg⟩ : ∃ g, xs.getD (q + 1) 0 = g := ⟨_, rfl⟩
  rw [hg] at g3 g4
  have hp := hf.1
  have H := Lib.hide hh
  have HX := Lib.hide hx
  have HV := Lib.hide hv
  have HY := Lib.hide hy
  have HYF := Lib.hide hyf
  have HP := Lib.hide hp
  have HG := Lib.hide hg
  clear hh hx hv hl hf hy hyf hq hp hg
  rcases Int.emod_two_eq y with hpar | hpar
  all_goals rw [hpar]
  · have C := Lib.hide (fun w => odd_any y w false (by simp [hpar]))
    clear hpar
    go_enter Try.func28, Try.ntmps28
    go_wp2_with (first
      | (go_at_call 22; refine (placesOfRef_yes a n cap xs top l _ (H.out.below (by repeat (first | exact Below.refl _ _ | assumption | refine Below.drew ?_ | refine below_drewN ?_ _ | refine Below.allocs ?_ | refine Below.next ?_ (by assumption) | refine Below.setCell ?_ (by dsimp only; omega) _))) HV.out).mono ?_; rintro e w1 ⟨a1, c1, rfl, ho1, hb1⟩; have HO1 := Lib.hide ho1; clear ho1; obtain ⟨q1, q2, q3, q4, q5, q6, q7, q8⟩ := (TwoBoxes.start w _ _ _ _ _ _).next hb1; obtain ⟨bb, oo, he, hlt, hcc⟩ := (H.out.ints.below (w' := w1) (by repeat (first | exact Below.refl _ _ | assumption | refine Below.drew ?_ | refine below_drewN ?_ _ | refine Below.allocs ?_ | refine Below.next ?_ (by assumption) | refine Below.setCell ?_ (by dsimp only; omega) _))).at (by rw [HX.out]; omega); have e1 := hcc (q + 1) (by rw [HX.out]; omega); have e2 := hcc (q + 2 + k) (by rw [HX.out]; omega); rw [HG.out] at e1; rw [HY.out] at e2; clear hcc; subst he)
      | (go_at_call 42; refine (has_any a1 l.length c1 (nums l) q _ HO1.out.reads.2 (nums_length l) (by omega) true (decide_eq_true HP.out)).mono ?_; rintro e w2 ⟨rfl, rfl⟩)
      | (go_at_call 39; refine (in_yes _ _ _ _ (by omega) (by omega)).mono ?_; rintro e w2 ⟨rfl, rfl⟩)
      | (go_at_call 41; refine (C.out _).mono ?_; rintro e w2 ⟨rfl, rfl⟩)
      | (go_at_call 43; refine (half_any y _ HYF.out).mono ?_; rintro e w2 ⟨rfl, rfl⟩))
    exact bodyPost_ret (v := .tuple #[.agg #[.int .i64 0, .int .i64 (y / 2)], .int .i64 0]) (by simp [results, Try.results28, go_sem, q3, q4]) rfl ⟨rfl, (by repeat (first | exact Below.refl _ _ | assumption | refine Below.drew ?_ | refine below_drewN ?_ _ | refine Below.allocs ?_ | refine Below.next ?_ (by assumption) | refine Below.setCell ?_ (by dsimp only; omega) _))⟩
  · have C := Lib.hide (fun w => odd_any y w true (by simp [hpar]))
    clear hpar
    go_enter Try.func28, Try.ntmps28
    go_wp2_with (first
      | (go_at_call 22; refine (placesOfRef_yes a n cap xs top l _ (H.out.below (by repeat (first | exact Below.refl _ _ | assumption | refine Below.drew ?_ | refine below_drewN ?_ _ | refine Below.allocs ?_ | refine Below.next ?_ (by assumption) | refine Below.setCell ?_ (by dsimp only; omega) _))) HV.out).mono ?_; rintro e w1 ⟨a1, c1, rfl, ho1, hb1⟩; have HO1 := Lib.hide ho1; clear ho1; obtain ⟨q1, q2, q3, q4, q5, q6, q7, q8⟩ := (TwoBoxes.start w _ _ _ _ _ _).next hb1; obtain ⟨bb, oo, he, hlt, hcc⟩ := (H.out.ints.below (w' := w1) (by repeat (first | exact Below.refl _ _ | assumption | refine Below.drew ?_ | refine below_drewN ?_ _ | refine Below.allocs ?_ | refine Below.next ?_ (by assumption) | refine Below.setCell ?_ (by dsimp only; omega) _))).at (by rw [HX.out]; omega); have e1 := hcc (q + 1) (by rw [HX.out]; omega); have e2 := hcc (q + 2 + k) (by rw [HX.out]; omega); rw [HG.out] at e1; rw [HY.out] at e2; clear hcc; subst he)
      | (go_at_call 42; refine (has_any a1 l.length c1 (nums l) q _ HO1.out.reads.2 (nums_length l) (by omega) true (decide_eq_true HP.out)).mono ?_; rintro e w2 ⟨rfl, rfl⟩)
      | (go_at_call 39; refine (in_yes _ _ _ _ (by omega) (by omega)).mono ?_; rintro e w2 ⟨rfl, rfl⟩)
      | (go_at_call 41; refine (C.out _).mono ?_; rintro e w2 ⟨rfl, rfl⟩)
      | (go_at_call 43; refine (half_any y _ HYF.out).mono ?_; rintro e w2 ⟨rfl, rfl⟩))
    exact bodyPost_ret (v := .tuple #[.agg #[.int .i64 1, .int .i64 (y / 2)], .int .i64 0]) (by simp [results, Try.results28, go_sem, q3, q4]) rfl ⟨rfl, (by repeat (first | exact Below.refl _ _ | assumption | refine Below.drew ?_ | refine below_drewN ?_ _ | refine Below.allocs ?_ | refine Below.next ?_ (by assumption) | refine Below.setCell ?_ (by dsimp only; omega) _))⟩
end Go.Proofs.Ytpdcaoagpjcgbaa
