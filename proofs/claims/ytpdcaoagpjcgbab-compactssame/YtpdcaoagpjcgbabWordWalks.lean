/-
  The walks of heap.Word and heap.Of. It proves no statement by itself.
-/
import Derived.Test.YtpdcaoagpjcgbabBase
import Derived.Deep.RegionHeld3
set_option linter.unusedVariables false
set_option linter.unusedSimpArgs false
namespace Go.Proofs.Ytpdcaoagpjcgbab
open Go.RowKit

theorem and_one (n : Int) : bits .and .i64 n 1 = n % 2 := by
  show IntKind.i64.wrap ((BitVec.ofInt 64 n &&& BitVec.ofInt 64 1).toNat : Int) = _
  have h1 : BitVec.ofInt 64 1 = 1#64 := by decide
  rw [h1, BitVec.toNat_and]
  have h2 : (1#64).toNat = 1 := by decide
  rw [h2, Nat.and_one_is_mod, BitVec.toNat_ofInt, IntKind.wrap_i64]
  omega

/-- A reference's word is odd. -/
theorem isReference_any (n : Int) (w : World) :
    Calls Try.prog 60 #[.int .i64 n] w fun e w' => e = .returned (.bool (n % 2 == 1)) ∧ w = w' := by
  have ha := and_one n
  go_enter Try.func60, Try.ntmps60
  go_wp2
  go_ret
  exact ⟨rfl, rfl⟩

set_option maxHeartbeats 400000 in
theorem of_any (n : Int) (w : World) (hn : Fits n) :
    Calls Try.prog 26 #[.int .i64 n] w fun e w' => e = .returned (.agg #[.int .i64 (n % 2), .int .i64 (n / 2)]) ∧ Below w.heap.size w w' := by
  obtain ⟨hn1, hn2⟩ := hn
  rcases Int.emod_two_eq n with h | h
  · have hb : (n % 2 == 1) = false := by simp [h]
    rw [h]
    have H := Lib.hide h
    clear h
    go_enter Try.func26, Try.ntmps26
    go_wp2_with (go_at_call 60; refine (isReference_any _ _).mono ?_; rintro e w' ⟨rfl, rfl⟩)
    exact bodyPost_ret (v := .agg #[.int .i64 0, .int .i64 (n / 2)]) (by simp [results, Try.results26, go_sem]) rfl ⟨rfl, (Below.refl _ _).alloc (Nat.le_refl _) _⟩
  · have hb : (n % 2 == 1) = true := by simp [h]
    rw [h]
    have H := Lib.hide h
    clear h
    go_enter Try.func26, Try.ntmps26
    go_wp2_with (go_at_call 60; refine (isReference_any _ _).mono ?_; rintro e w' ⟨rfl, rfl⟩)
    exact bodyPost_ret (v := .agg #[.int .i64 1, .int .i64 (n / 2)]) (by simp [results, Try.results26, go_sem]) rfl ⟨rfl, (Below.refl _ _).alloc (Nat.le_refl _) _⟩

/-- The word for a value of kind 0 (a number) or another kind. -/
def wordOf (k n : Int) : Int := if k = 0 then 2 * n else 2 * n + 1

set_option maxHeartbeats 400000 in
theorem word_any (k n : Int) (w : World) (h1 : -2305843009213693952 ≤ n) (h2 : n ≤ 2305843009213693952) :
    Calls Try.prog 55 #[.agg #[.int .i64 k, .int .i64 n]] w fun e w' => e = .returned (.int .i64 (wordOf k n)) ∧ Below w.heap.size w w' := by
  by_cases h3 : k = 0
  · subst h3
    go_enter Try.func55, Try.ntmps55
    go_wp2
    go_ret
    exact ⟨rfl, (Below.refl _ _).alloc (Nat.le_refl _) _⟩
  · have h4 : (k == 0) = false := by simpa using h3
    have hw : wordOf k n = 2 * n + 1 := by simp [wordOf, h3]
    rw [hw]
    clear hw h3
    go_enter Try.func55, Try.ntmps55
    go_wp2
    go_ret
    exact ⟨rfl, (Below.refl _ _).alloc (Nat.le_refl _) _⟩

theorem wordOf_back (k m : Int) (hk : k = 0 ∨ k = 1) : wordOf k m % 2 = k ∧ wordOf k m / 2 = m := by
  unfold wordOf
  rcases hk with rfl | rfl
  · simp only [if_true]; omega
  · rw [if_neg (by omega)]; omega

theorem wordOf_fits (k m : Int) (h1 : -2305843009213693952 ≤ m) (h2 : m ≤ 2305843009213693952) : Fits (wordOf k m) := by
  unfold wordOf Fits
  split <;> omega

theorem ofword_any (k m : Int) (w : World) (hk : k = 0 ∨ k = 1) (h1 : -2305843009213693952 ≤ m) (h2 : m ≤ 2305843009213693952) :
    Calls Try.prog 26 #[.int .i64 (wordOf k m)] w fun e w' => e = .returned (.agg #[.int .i64 k, .int .i64 m]) ∧ Below w.heap.size w w' := by
  refine (of_any _ w (wordOf_fits k m h1 h2)).mono ?_
  rintro e w' ⟨rfl, hb⟩
  rw [(wordOf_back k m hk).1, (wordOf_back k m hk).2]
  exact ⟨rfl, hb⟩

end Go.Proofs.Ytpdcaoagpjcgbab
