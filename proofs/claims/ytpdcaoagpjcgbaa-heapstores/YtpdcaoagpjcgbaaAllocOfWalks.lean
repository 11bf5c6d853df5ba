/-
  The walks of the reference's AllocOf and of the law on heap.Alloc. It proves no statement by itself.
-/
import Derived.Test.YtpdcaoagpjcgbaaAllocWalks
import Derived.Test.YtpdcaoagpjcgbaaCheckLaws
import Derived.Test.YtpdcaoagpjcgbaaCopyRef
namespace Go.Proofs.Ytpdcaoagpjcgbaa
open Go.RowKit

set_option maxHeartbeats 1600000 in
open Lw in
theorem allocOf_yes (a : Option Addr) (n cap : Nat) (xs : List Int) (t f : Nat) (l : List Nat) (w : World) (hh : IsHeap w a n cap xs t) (hnil : a = none → cap = 0) (hv : Valid xs t l) (hf : f ≤ 6) (hfit : t + 2 + f ≤ n) :
    Calls Try.prog 26 #[.agg #[.slice a n cap, .int .i64 t], .int .i64 f] w (AllocPost w (xs.set (t + 1) f) n ((t : Int) + (2 + f)) t) := by
  rw [show (t : Int) + (2 + f) = t + 2 + f by omega]
  have hx := hh.len
  have v2 := hv.len2
  have v3 := hv.top1
  have kc1 := hh.cap1
  rw [hx] at v2
  have H := Lib.hide hh
  have HX := Lib.hide hx
  have HV := Lib.hide hv
  have HN := Lib.hide hnil
  clear hh hx hv hnil
  go_enter Try.func26, Try.ntmps26
  go_wp2_with (first
    | (go_at_call 20; refine (says_yes (heapMay_any a n cap xs t _ (H.out.below (by repeat (first | exact Below.refl _ _ | assumption | refine Below.drew ?_ | refine below_drewN ?_ _ | refine Below.allocs ?_ | refine Below.next ?_ (by assumption) | refine Below.setCell ?_ (by dsimp only; omega) _)))) ⟨l, HV.out⟩).mono ?_; rintro e w1 ⟨rfl, hb1⟩; have HT := Lib.hide ((TwoBoxes.start w _ _ _ _ _ _).next hb1); obtain ⟨q1, q2, q3, q4, q5, q6, q7, q8⟩ := HT.out)
    | (go_at_call 39; refine (in_yes _ _ _ _ (by omega) (by omega)).mono ?_; rintro e w' ⟨rfl, rfl⟩)
    | (go_at_call 24; refine (heapCopy_any a n cap xs t _ (H.out.ints.below (by repeat (first | exact Below.refl _ _ | assumption | refine Below.drew ?_ | refine below_drewN ?_ _ | refine Below.allocs ?_ | refine Below.next ?_ (by assumption) | refine Below.setCell ?_ (by dsimp only; omega) _))) HX.out (by omega) HN.out kc1).mono ?_; rintro e w2 ⟨a2, c2, rfl, ho2, hb2⟩; have HT2 := Lib.hide (HT.out.next hb2); obtain ⟨r1, r2, r3, r4, r5, r6, r7, r8⟩ := HT2.out; obtain ⟨g, he, hg1, hg2, hgc, hgf⟩ := ho2.row (by omega); subst he; have HO2 := Lib.hide ho2; clear ho2; have e1 := hgc (t + 1) (by omega); have e2 := hgf (t + 1); have hg3 : w.heap.size < g := Nat.lt_of_lt_of_le q8 hg1; have hg4 : w.heap.size + 1 < g := Nat.lt_of_lt_of_le q7 hg1; clear hgc hgf))
  go_region
  go_wp2
  exact bodyPost_ret (v := .tuple #[.agg #[.slice (some ⟨g, 0, none⟩) n c2, .int .i64 ((t : Int) + 2 + f)], .int .i64 t, .int .i64 0]) (by simp only [results, Try.results26]; go_simp) rfl
    ⟨_, _, rfl, ownsRow_base ((((HO2.out.stored (t + 1) f).far (by simp [Value.ownBlock]; omega) _).far (by simp [Value.ownBlock]; omega) _).allocs _).drews (Nat.le_of_lt q8), (by repeat (first | exact Below.refl _ _ | assumption | refine Below.drew ?_ | refine below_drewN ?_ _ | refine Below.allocs ?_ | refine Below.next ?_ (by assumption) | refine Below.setCell ?_ (by dsimp only; omega) _))⟩

set_option maxHeartbeats 1600000 in
open Lw in
theorem allocOf_no (a : Option Addr) (n cap : Nat) (xs : List Int) (top f : Int) (w : World) (hh : IsHeap w a n cap xs top) (hv : ∀ l, ¬ Valid xs top l) :
    Calls Try.prog 26 #[.agg #[.slice a n cap, .int .i64 top], .int .i64 f] w (AllocNo w 5) := by
  have H := Lib.hide hh
  have HV := Lib.hide (not_exists.2 hv)
  clear hh hv
  go_enter Try.func26, Try.ntmps26
  go_wp2_with (go_at_call 20; refine (says_no (heapMay_any a n cap xs top _ (H.out.below (by repeat (first | exact Below.refl _ _ | assumption | refine Below.drew ?_ | refine below_drewN ?_ _ | refine Below.allocs ?_ | refine Below.next ?_ (by assumption) | refine Below.setCell ?_ (by dsimp only; omega) _)))) HV.out).mono ?_; rintro e w1 ⟨rfl, hb1⟩; obtain ⟨q1, q2, q3, q4, q5, q6, q7, q8⟩ := (TwoBoxes.start w _ _ _ _ _ _).next hb1)
  exact bodyPost_ret (v := .tuple #[.agg #[.slice none 0 0, .int .i64 0], .int .i64 0, .int .i64 5]) (by simp [results, Try.results26, go_sem, q3, q4]) rfl ⟨rfl, (by repeat (first | exact Below.refl _ _ | assumption | refine Below.drew ?_ | refine below_drewN ?_ _ | refine Below.allocs ?_ | refine Below.next ?_ (by assumption) | refine Below.setCell ?_ (by dsimp only; omega) _))⟩

set_option maxHeartbeats 1600000 in
open Lw in
theorem allocOf_range (a : Option Addr) (n cap : Nat) (xs : List Int) (top f : Int) (l : List Nat) (w : World) (hh : IsHeap w a n cap xs top) (hv : Valid xs top l) (hf : f < 0 ∨ 6 < f) :
    Calls Try.prog 26 #[.agg #[.slice a n cap, .int .i64 top], .int .i64 f] w (AllocNo w 2) := by
  have H := Lib.hide hh
  have HV := Lib.hide hv
  have HF := Lib.hide hf
  clear hh hv hf
  go_enter Try.func26, Try.ntmps26
  go_wp2_with (first
    | (go_at_call 20; refine (says_yes (heapMay_any a n cap xs top _ (H.out.below (by repeat (first | exact Below.refl _ _ | assumption | refine Below.drew ?_ | refine below_drewN ?_ _ | refine Below.allocs ?_ | refine Below.next ?_ (by assumption) | refine Below.setCell ?_ (by dsimp only; omega) _)))) ⟨l, HV.out⟩).mono ?_; rintro e w1 ⟨rfl, hb1⟩; obtain ⟨q1, q2, q3, q4, q5, q6, q7, q8⟩ := (TwoBoxes.start w _ _ _ _ _ _).next hb1)
    | (go_at_call 39; refine (in_no _ _ _ _ (by have := HF.out; omega)).mono ?_; rintro e w' ⟨rfl, rfl⟩))
  exact bodyPost_ret (v := .tuple #[.agg #[.slice none 0 0, .int .i64 0], .int .i64 0, .int .i64 2]) (by simp [results, Try.results26, go_sem, q3, q4]) rfl ⟨rfl, (by repeat (first | exact Below.refl _ _ | assumption | refine Below.drew ?_ | refine below_drewN ?_ _ | refine Below.allocs ?_ | refine Below.next ?_ (by assumption) | refine Below.setCell ?_ (by dsimp only; omega) _))⟩

set_option maxHeartbeats 1600000 in
open Lw in
theorem allocOf_full (a : Option Addr) (n cap : Nat) (xs : List Int) (t f : Nat) (l : List Nat) (w : World) (hh : IsHeap w a n cap xs t) (hv : Valid xs t l) (hf : f ≤ 6) (hfit : n < t + 2 + f) :
    Calls Try.prog 26 #[.agg #[.slice a n cap, .int .i64 t], .int .i64 f] w (AllocNo w 1) := by
  have hx := hh.len
  have v2 := hv.len2
  have v4 := hv.top2
  rw [hx] at v2 v4
  have H := Lib.hide hh
  have HV := Lib.hide hv
  clear hh hv hx
  go_enter Try.func26, Try.ntmps26
  go_wp2_with (first
    | (go_at_call 20; refine (says_yes (heapMay_any a n cap xs t _ (H.out.below (by repeat (first | exact Below.refl _ _ | assumption | refine Below.drew ?_ | refine below_drewN ?_ _ | refine Below.allocs ?_ | refine Below.next ?_ (by assumption) | refine Below.setCell ?_ (by dsimp only; omega) _)))) ⟨l, HV.out⟩).mono ?_; rintro e w1 ⟨rfl, hb1⟩; obtain ⟨q1, q2, q3, q4, q5, q6, q7, q8⟩ := (TwoBoxes.start w _ _ _ _ _ _).next hb1)
    | (go_at_call 39; refine (in_yes _ _ _ _ (by omega) (by omega)).mono ?_; rintro e w' ⟨rfl, rfl⟩))
  exact bodyPost_ret (v := .tuple #[.agg #[.slice none 0 0, .int .i64 0], .int .i64 0, .int .i64 1]) (by simp [results, Try.results26, go_sem, q3, q4]) rfl ⟨rfl, (by repeat (first | exact Below.refl _ _ | assumption | refine Below.drew ?_ | refine below_drewN ?_ _ | refine Below.allocs ?_ | refine Below.next ?_ (by assumption) | refine Below.setCell ?_ (by dsimp only; omega) _))⟩

open Lw in
/-- heap.Alloc and the reference hand back the same: both a heap, or both one and the same error. -/
theorem allocs_same (a : Option Addr) (n cap : Nat) (xs : List Int) (top f : Int) (w : World) (hh : IsHeap w a n cap xs top) :
    (∃ (ys : List Int) (top' p : Int), ys.length = n ∧ (∀ a' cap' w', Below w.heap.size w w' → IsHeap w' a' n cap' xs top → Calls Try.prog 25 #[.agg #[.slice a' n cap', .int .i64 top], .int .i64 f] w' (AllocPost w' ys n top' p)) ∧
      (∀ w', Below w.heap.size w w' → (a = none → cap = 0) → Calls Try.prog 26 #[.agg #[.slice a n cap, .int .i64 top], .int .i64 f] w' (AllocPost w' ys n top' p))) ∨
    (∃ c : Int, (∀ a' cap' w', Below w.heap.size w w' → IsHeap w' a' n cap' xs top → Calls Try.prog 25 #[.agg #[.slice a' n cap', .int .i64 top], .int .i64 f] w' (AllocNo w' c)) ∧
      (∀ w', Below w.heap.size w w' → Calls Try.prog 26 #[.agg #[.slice a n cap, .int .i64 top], .int .i64 f] w' (AllocNo w' c))) := by
  by_cases hv : ∃ l, Valid xs top l
  · obtain ⟨l, hv⟩ := hv
    by_cases hf : f < 0 ∨ 6 < f
    · exact .inr ⟨2, fun a' cap' w' _ h => alloc_range a' n cap' xs top f l w' h hv hf, fun w' hb => allocOf_range a n cap xs top f l w' (hh.below hb) hv hf⟩
    · obtain ⟨g, rfl⟩ := Int.eq_ofNat_of_zero_le (a := f) (by omega)
      obtain ⟨t, rfl⟩ := Int.eq_ofNat_of_zero_le (a := top) (by have := hv.top1; omega)
      by_cases hfit : t + 2 + g ≤ n
      · exact .inl ⟨_, _, _, by rw [List.length_set]; exact hh.len, fun a' cap' w' _ h => alloc_yes a' n cap' xs t g l w' h hv (by omega) hfit, fun w' hb hn => allocOf_yes a n cap xs t g l w' (hh.below hb) hn hv (by omega) hfit⟩
      · exact .inr ⟨1, fun a' cap' w' _ h => alloc_full a' n cap' xs t g l w' h hv (by omega) (by omega), fun w' hb => allocOf_full a n cap xs t g l w' (hh.below hb) hv (by omega) (by omega)⟩
  · exact .inr ⟨5, fun a' cap' w' _ h => alloc_no a' n cap' xs top f w' h (not_exists.1 hv), fun w' hb => allocOf_no a n cap xs top f w' (hh.below hb) (not_exists.1 hv)⟩
end Go.Proofs.Ytpdcaoagpjcgbaa
