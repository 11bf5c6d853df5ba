/-
  The walks of the laws on heap.Check and heap.Places. It proves no statement by itself.
-/
import Derived.Test.YtpdcaoagpjcgbaaSameWalks
import Derived.Test.YtpdcaoagpjcgbaaMayWalks
namespace Go.Proofs.Ytpdcaoagpjcgbaa
open Go.RowKit

theorem isHeap_of {w : World} {a : Option Addr} {cap : Nat} {xs : List Int} {top : Int} (hc : xs.length ≤ cap) (hr : cap * 8 ≤ 140737488351232) (hf : ∀ n ∈ xs, Fits n) (ht : Fits top) (hi : Ints w a xs) : IsHeap w a xs.length cap xs top :=
  ⟨hi, rfl, hc, by omega, hf, ht⟩

set_option maxHeartbeats 400000 in
open Lw in
theorem heapChecks.walk (a : Option Addr) (cap : Nat) (xs : List Int) (top : Int) (hc : xs.length ≤ cap) (hr : cap * 8 ≤ 140737488351232) (hf : ∀ n ∈ xs, Fits n) (ht : Fits top) (_ : a = none → cap = 0) (w : World) (hi : Ints w a xs) :
    Calls Try.prog 5 #[.agg #[.slice a xs.length cap, .int .i64 top]] w fun e w' => e = .returned (.bool true) ∧ Below w.heap.size w w' := by
  have H := Lib.hide (isHeap_of hc hr hf ht hi)
  clear hc hr hf ht hi
  generalize xs.length = n at *
  by_cases hv : ∃ l, Valid xs top l
  · obtain ⟨l, hv⟩ := hv
    have HV := Lib.hide hv
    clear hv
    go_enter Try.func5, Try.ntmps5
    go_wp2_with (first
      | (go_at_call 19; refine (check_yes a n cap xs top l _ (H.out.below (by repeat (first | exact Below.refl _ _ | assumption | refine Below.drew ?_ | refine below_drewN ?_ _ | refine Below.allocs ?_ | refine Below.next ?_ (by assumption) | refine Below.setCell ?_ (by dsimp only; omega) _))) HV.out).mono ?_; rintro e w1 ⟨rfl, hb1⟩; obtain ⟨qc_hb1, qf_hb1, qs_hb1⟩ := bcell hb1; have hz1 := Below.past hb1)
      | (go_at_call 20; refine (says_yes (heapMay_any a n cap xs top _ (H.out.below (by repeat (first | exact Below.refl _ _ | assumption | refine Below.drew ?_ | refine below_drewN ?_ _ | refine Below.allocs ?_ | refine Below.next ?_ (by assumption) | refine Below.setCell ?_ (by dsimp only; omega) _)))) ⟨l, HV.out⟩).mono ?_; rintro e w2 ⟨rfl, hb2⟩))
    go_ret
    exact ⟨rfl, (by repeat (first | exact Below.refl _ _ | assumption | refine Below.drew ?_ | refine below_drewN ?_ _ | refine Below.allocs ?_ | refine Below.next ?_ (by assumption) | refine Below.setCell ?_ (by dsimp only; omega) _))⟩
  · have HV := Lib.hide hv
    clear hv
    go_enter Try.func5, Try.ntmps5
    go_wp2_with (first
      | (go_at_call 19; refine (check_no a n cap xs top _ (H.out.below (by repeat (first | exact Below.refl _ _ | assumption | refine Below.drew ?_ | refine below_drewN ?_ _ | refine Below.allocs ?_ | refine Below.next ?_ (by assumption) | refine Below.setCell ?_ (by dsimp only; omega) _))) (not_exists.1 HV.out)).mono ?_; rintro e w1 ⟨rfl, hb1⟩; obtain ⟨qc_hb1, qf_hb1, qs_hb1⟩ := bcell hb1; have hz1 := Below.past hb1)
      | (go_at_call 20; refine (says_no (heapMay_any a n cap xs top _ (H.out.below (by repeat (first | exact Below.refl _ _ | assumption | refine Below.drew ?_ | refine below_drewN ?_ _ | refine Below.allocs ?_ | refine Below.next ?_ (by assumption) | refine Below.setCell ?_ (by dsimp only; omega) _)))) HV.out).mono ?_; rintro e w2 ⟨rfl, hb2⟩))
    go_ret
    exact ⟨rfl, (by repeat (first | exact Below.refl _ _ | assumption | refine Below.drew ?_ | refine below_drewN ?_ _ | refine Below.allocs ?_ | refine Below.next ?_ (by assumption) | refine Below.setCell ?_ (by dsimp only; omega) _))⟩

set_option maxHeartbeats 400000 in
open Lw in
theorem heapPlaces.walk (a : Option Addr) (cap : Nat) (xs : List Int) (top : Int) (hc : xs.length ≤ cap) (hr : cap * 8 ≤ 140737488351232) (hf : ∀ n ∈ xs, Fits n) (ht : Fits top) (_ : a = none → cap = 0) (w : World) (hi : Ints w a xs) :
    Calls Try.prog 6 #[.agg #[.slice a xs.length cap, .int .i64 top]] w fun e w' => e = .returned (.bool true) ∧ Below w.heap.size w w' := by
  have H := Lib.hide (isHeap_of hc hr hf ht hi)
  clear hc hr hf ht hi
  generalize xs.length = n at *
  by_cases hv : ∃ l, Valid xs top l
  · obtain ⟨l, hv⟩ := hv
    have hl4 : l.length ≤ 400 := by
      have := (Objects.laid hv.objects).short
      have := hv.top1
      have := hv.top2
      have := hv.len2
      omega
    have HV := Lib.hide hv
    clear hv
    go_enter Try.func6, Try.ntmps6
    go_wp2_with (first
      | (go_at_call 21; refine (places_yes a n cap xs top l _ (H.out.below (by repeat (first | exact Below.refl _ _ | assumption | refine Below.drew ?_ | refine below_drewN ?_ _ | refine Below.allocs ?_ | refine Below.next ?_ (by assumption) | refine Below.setCell ?_ (by dsimp only; omega) _))) HV.out).mono ?_; rintro e w1 ⟨a1, c1, rfl, ho1, hb1⟩; obtain ⟨qc_hb1, qf_hb1, qs_hb1⟩ := bcell hb1; have hz1 := Below.past hb1; have HO1 := Lib.hide ho1; clear ho1)
      | (go_at_call 22; refine (placesOfRef_yes a n cap xs top l _ (H.out.below (by repeat (first | exact Below.refl _ _ | assumption | refine Below.drew ?_ | refine below_drewN ?_ _ | refine Below.allocs ?_ | refine Below.next ?_ (by assumption) | refine Below.setCell ?_ (by dsimp only; omega) _))) HV.out).mono ?_; rintro e w2 ⟨a2, c2, rfl, ho2, hb2⟩; have HO2 := Lib.hide ho2; clear ho2)
      | (go_at_call 23; refine (sameInts_same a1 a2 l.length c1 c2 (nums l) _ (HO1.out.reads.2.below (by repeat (first | exact Below.refl _ _ | assumption | refine Below.drew ?_ | refine below_drewN ?_ _ | refine Below.allocs ?_ | refine Below.next ?_ (by assumption) | refine Below.setCell ?_ (by dsimp only; omega) _))) (HO2.out.reads.2.below (by repeat (first | exact Below.refl _ _ | assumption | refine Below.drew ?_ | refine below_drewN ?_ _ | refine Below.allocs ?_ | refine Below.next ?_ (by assumption) | refine Below.setCell ?_ (by dsimp only; omega) _))) (nums_length l) (by omega)).mono ?_; rintro e w3 ⟨rfl, hb3⟩))
    go_ret
    exact ⟨rfl, (by repeat (first | exact Below.refl _ _ | assumption | refine Below.drew ?_ | refine below_drewN ?_ _ | refine Below.allocs ?_ | refine Below.next ?_ (by assumption) | refine Below.setCell ?_ (by dsimp only; omega) _))⟩
  · have HV := Lib.hide hv
    clear hv
    go_enter Try.func6, Try.ntmps6
    go_wp2_with (first
      | (go_at_call 21; refine (places_no a n cap xs top _ (H.out.below (by repeat (first | exact Below.refl _ _ | assumption | refine Below.drew ?_ | refine below_drewN ?_ _ | refine Below.allocs ?_ | refine Below.next ?_ (by assumption) | refine Below.setCell ?_ (by dsimp only; omega) _))) (not_exists.1 HV.out)).mono ?_; rintro e w1 ⟨rfl, hb1⟩; obtain ⟨qc_hb1, qf_hb1, qs_hb1⟩ := bcell hb1; have hz1 := Below.past hb1)
      | (go_at_call 22; refine (placesOfRef_no a n cap xs top _ (H.out.below (by repeat (first | exact Below.refl _ _ | assumption | refine Below.drew ?_ | refine below_drewN ?_ _ | refine Below.allocs ?_ | refine Below.next ?_ (by assumption) | refine Below.setCell ?_ (by dsimp only; omega) _))) (not_exists.1 HV.out)).mono ?_; rintro e w2 ⟨rfl, hb2⟩)
      | (go_at_call 23; refine (sameInts_same none none 0 0 0 [] _ (.inl rfl) (.inl rfl) rfl (by omega)).mono ?_; rintro e w3 ⟨rfl, hb3⟩))
    go_ret
    exact ⟨rfl, (by repeat (first | exact Below.refl _ _ | assumption | refine Below.drew ?_ | refine below_drewN ?_ _ | refine Below.allocs ?_ | refine Below.next ?_ (by assumption) | refine Below.setCell ?_ (by dsimp only; omega) _))⟩
end Go.Proofs.Ytpdcaoagpjcgbaa
