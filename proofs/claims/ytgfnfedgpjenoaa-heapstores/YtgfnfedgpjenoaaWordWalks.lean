/-
  What the laws on words of values return: the walks of heap.Word, heap.Of and of the laws over them. It proves no statement by itself.
-/
import Derived.Test.YtgfnfedgpjenoaaBase
import Derived.Deep.RegionHeld3
namespace Go.Proofs.Ytgfnfedgpjenoaa
open Go.RowKit

theorem and_one (n : Int) : bits .and .i64 n 1 = n % 2 := by
  show IntKind.i64.wrap ((BitVec.ofInt 64 n &&& BitVec.ofInt 64 1).toNat : Int) = _
  have h1 : BitVec.ofInt 64 1 = 1#64 := by decide
  rw [h1, BitVec.toNat_and]
  have h2 : (1#64).toNat = 1 := by decide
  rw [h2, Nat.and_one_is_mod, BitVec.toNat_ofInt, IntKind.wrap_i64]
  omega

/-- A reference's word is odd. -/
theorem isReference_any (n : Int) (w : World) :
    Calls Try.prog 43 #[.int .i64 n] w fun e w' => e = .returned (.bool (n % 2 == 1)) ∧ w = w' := by
  have ha := and_one n
  go_enter Try.func43, Try.ntmps43
  go_wp2
  go_ret
  exact ⟨rfl, rfl⟩

set_option maxHeartbeats 400000 in
theorem of_any (n : Int) (w : World) (hn : Fits n) :
    Calls Try.prog 30 #[.int .i64 n] w fun e w' => e = .returned (.agg #[.int .i64 (n % 2), .int .i64 (n / 2)]) ∧ Below w.heap.size w w' := by
  obtain ⟨hn1, hn2⟩ := hn
  rcases Int.emod_two_eq n with h | h
  · have hb : (n % 2 == 1) = false := by simp [h]
    rw [h]
    have H := Lib.hide h
    clear h
    go_enter Try.func30, Try.ntmps30
    go_wp2_with (go_at_call 43; refine (isReference_any _ _).mono ?_; rintro e w' ⟨rfl, rfl⟩)
    exact bodyPost_ret (v := .agg #[.int .i64 0, .int .i64 (n / 2)]) (by simp [results, Try.results30, go_sem]) rfl ⟨rfl, (Below.refl _ _).alloc (Nat.le_refl _) _⟩
  · have hb : (n % 2 == 1) = true := by simp [h]
    rw [h]
    have H := Lib.hide h
    clear h
    go_enter Try.func30, Try.ntmps30
    go_wp2_with (go_at_call 43; refine (isReference_any _ _).mono ?_; rintro e w' ⟨rfl, rfl⟩)
    exact bodyPost_ret (v := .agg #[.int .i64 1, .int .i64 (n / 2)]) (by simp [results, Try.results30, go_sem]) rfl ⟨rfl, (Below.refl _ _).alloc (Nat.le_refl _) _⟩

set_option maxHeartbeats 400000 in
theorem heapOfs.walk (n : Int) (hn : Fits n) (w : World) :
    Calls Try.prog 11 #[.int .i64 n] w fun e w' => e = .returned (.bool true) ∧ Below w.heap.size w w' := by
  by_cases h1 : n < -1152921504606846976
  · go_enter Try.func11, Try.ntmps11
    go_wp2
    go_ret
    exact ⟨rfl, Below.refl _ _⟩
  · by_cases h2 : 1152921504606846976 < n
    · go_enter Try.func11, Try.ntmps11
      go_wp2
      go_ret
      exact ⟨rfl, Below.refl _ _⟩
    · rcases Int.emod_two_eq n with h | h
      · have C := Lib.hide (of_any n w hn)
        rw [h] at C
        have ht : (n == 2 * (n / 2)) = true := by simp; omega
        have H := Lib.hide h
        clear h hn
        go_enter Try.func11, Try.ntmps11
        go_wp2_with (go_at_call 30; refine C.out.mono ?_; rintro e w' ⟨rfl, hb⟩)
        go_ret
        exact ⟨rfl, hb.alloc hb.size _⟩
      · have C := Lib.hide (of_any n w hn)
        rw [h] at C
        have ht : (n == 2 * (n / 2) + 1) = true := by simp; omega
        have H := Lib.hide h
        clear h hn
        go_enter Try.func11, Try.ntmps11
        go_wp2_with (go_at_call 30; refine C.out.mono ?_; rintro e w' ⟨rfl, hb⟩)
        go_ret
        exact ⟨rfl, hb.alloc hb.size _⟩

/-- The word for a value of kind 0 (a number) or another kind. -/
def wordOf (k n : Int) : Int := if k = 0 then 2 * n else 2 * n + 1

set_option maxHeartbeats 400000 in
theorem word_any (k n : Int) (w : World) (h1 : -2305843009213693952 ≤ n) (h2 : n ≤ 2305843009213693952) :
    Calls Try.prog 29 #[.agg #[.int .i64 k, .int .i64 n]] w fun e w' => e = .returned (.int .i64 (wordOf k n)) ∧ Below w.heap.size w w' := by
  by_cases h3 : k = 0
  · subst h3
    go_enter Try.func29, Try.ntmps29
    go_wp2
    go_ret
    exact ⟨rfl, (Below.refl _ _).alloc (Nat.le_refl _) _⟩
  · have h4 : (k == 0) = false := by simpa using h3
    have hw : wordOf k n = 2 * n + 1 := by simp [wordOf, h3]
    rw [hw]
    clear hw h3
    go_enter Try.func29, Try.ntmps29
    go_wp2
    go_ret
    exact ⟨rfl, (Below.refl _ _).alloc (Nat.le_refl _) _⟩

/-- limewashkeep.picked: a number from 0 to many - 1. -/
def pick (n m : Int) : Int := if n < 0 then (-(n + 1)) % m else n % m

theorem pick_lt (n m : Int) (hm : 0 < m) : 0 ≤ pick n m ∧ pick n m < m := by
  unfold pick
  split
  · exact ⟨Int.emod_nonneg _ (by omega), Int.emod_lt_of_pos _ hm⟩
  · exact ⟨Int.emod_nonneg _ (by omega), Int.emod_lt_of_pos _ hm⟩

set_option maxHeartbeats 400000 in
theorem picked_any (n m : Int) (w : World) (hn : Fits n) (hm : 0 < m) (hm2 : m ≤ 1000000) :
    Calls Try.prog 31 #[.int .i64 n, .int .i64 m] w fun e w' => e = .returned (.int .i64 (pick n m)) ∧ w = w' := by
  obtain ⟨h1, h2⟩ := hn
  by_cases h3 : n < 0
  · have hp : pick n m = -((n + 1).tmod m) := by
      simp only [pick, h3, if_true]
      rw [← Int.neg_tmod, Int.tmod_eq_emod_of_nonneg (by omega)]
    rw [hp]
    clear hp
    go_enter Try.func31, Try.ntmps31
    go_wp2
    go_ret
    exact ⟨rfl, rfl⟩
  · have hp : pick n m = n % m := by simp [pick, h3]
    rw [hp]
    clear hp
    go_enter Try.func31, Try.ntmps31
    go_wp2
    go_ret
    exact ⟨rfl, rfl⟩

theorem wordOf_back (k m : Int) (hk : k = 0 ∨ k = 1) : wordOf k m % 2 = k ∧ wordOf k m / 2 = m := by
  unfold wordOf
  rcases hk with rfl | rfl
  · simp only [if_true]; omega
  · rw [if_neg (by omega)]; omega

theorem wordOf_fits (k m : Int) (h1 : -2305843009213693952 ≤ m) (h2 : m ≤ 2305843009213693952) : Fits (wordOf k m) := by
  unfold wordOf Fits
  split <;> omega

theorem ofword_any (k m : Int) (w : World) (hk : k = 0 ∨ k = 1) (h1 : -2305843009213693952 ≤ m) (h2 : m ≤ 2305843009213693952) :
    Calls Try.prog 30 #[.int .i64 (wordOf k m)] w fun e w' => e = .returned (.agg #[.int .i64 k, .int .i64 m]) ∧ Below w.heap.size w w' := by
  refine (of_any _ w (wordOf_fits k m h1 h2)).mono ?_
  rintro e w' ⟨rfl, hb⟩
  rw [(wordOf_back k m hk).1, (wordOf_back k m hk).2]
  exact ⟨rfl, hb⟩

set_option maxHeartbeats 400000 in
theorem box2_start {w : World} {x y : Value} {t : TypeId} : ((w.alloc (.cells #[x, y] t)).drew).cell? ⟨w.heap.size, 0, none⟩ = some x ∧ ((w.alloc (.cells #[x, y] t)).drew).cell? ⟨w.heap.size, 1, none⟩ = some y ∧ Below w.heap.size w (w.alloc (.cells #[x, y] t)).drew ∧ w.heap.size < (w.alloc (.cells #[x, y] t)).drew.heap.size := by
  refine ⟨?_, ?_, ((Below.refl _ _).alloc (Nat.le_refl _) _).drew, ?_⟩ <;> simp

theorem box2_step {w w1 w2 : World} {B : Nat} {x y : Value} (h : w1.cell? ⟨B, 0, none⟩ = some x ∧ w1.cell? ⟨B, 1, none⟩ = some y ∧ Below B w w1 ∧ B < w1.heap.size) (hb : Below w1.heap.size w1 w2) :
    w2.cell? ⟨B, 0, none⟩ = some x ∧ w2.cell? ⟨B, 1, none⟩ = some y ∧ Below B w w2 ∧ B < w2.heap.size :=
  ⟨(hb.cell (p := ⟨B, 0, none⟩) h.2.2.2).trans h.1, (hb.cell (p := ⟨B, 1, none⟩) h.2.2.2).trans h.2.1, h.2.2.1.trans (hb.mono (Nat.le_of_lt h.2.2.2)), Nat.lt_of_lt_of_le h.2.2.2 hb.size⟩

set_option maxHeartbeats 400000 in
theorem wordsBack.walk (n : Int) (hn : Fits n) (o : Bool) (w : World) :
    Calls Try.prog 12 #[.int .i64 n, .bool o] w fun e w' => e = .returned (.bool true) ∧ Below w.heap.size w w' := by
  cases o
  · have hm1 : -1099511627776 < n.tmod 1099511627776 := by have := Int.lt_tmod_of_pos n (b := 1099511627776) (by omega); omega
    have hm2 : n.tmod 1099511627776 < 1099511627776 := Int.tmod_lt_of_pos n (by omega)
    go_enter Try.func12, Try.ntmps12
    go_wp2
    generalize n.tmod 1099511627776 = m at *
    have hw1 : (wordOf 1 0 == 1) = true := by decide
    have hS := box2_start (w := w) (x := .int .i64 0) (y := .int .i64 m) (t := 40)
    go_region_held3 (fun w' => w'.cell? ⟨w.heap.size, 0, none⟩ = some (.int .i64 0) ∧ w'.cell? ⟨w.heap.size, 1, none⟩ = some (.int .i64 m) ∧ Below w.heap.size w w' ∧ w.heap.size < w'.heap.size) (first | exact hS)
      (first | (go_at_call 29; with_reducible refine (word_any _ _ _ (by omega) (by omega)).mono ?_; rintro e w' ⟨rfl, hb⟩; have hS := box2_step hS hb) | (go_at_call 30; with_reducible refine (ofword_any 0 m _ (.inl rfl) (by omega) (by omega)).mono ?_; rintro e w' ⟨rfl, hb⟩; have hS := box2_step hS hb))
    go_wp2
    go_ret
    exact ⟨rfl, hS.2.2.1⟩
  · have hp := pick_lt n 400 (by omega)
    go_enter Try.func12, Try.ntmps12
    go_wp2_with (go_at_call 31; refine (picked_any n 400 _ hn (by omega) (by omega)).mono ?_; rintro e w' ⟨rfl, rfl⟩)
    generalize pick n 400 = m at *
    have hw1 : (wordOf 1 0 == 1) = true := by decide
    have hS := box2_start (w := w) (x := .int .i64 1) (y := .int .i64 m) (t := 40)
    go_region_held3 (fun w' => w'.cell? ⟨w.heap.size, 0, none⟩ = some (.int .i64 1) ∧ w'.cell? ⟨w.heap.size, 1, none⟩ = some (.int .i64 m) ∧ Below w.heap.size w w' ∧ w.heap.size < w'.heap.size) (first | exact hS)
      (first | (go_at_call 29; with_reducible refine (word_any _ _ _ (by omega) (by omega)).mono ?_; rintro e w' ⟨rfl, hb⟩; have hS := box2_step hS hb) | (go_at_call 30; with_reducible refine (ofword_any 1 m _ (.inr rfl) (by omega) (by omega)).mono ?_; rintro e w' ⟨rfl, hb⟩; have hS := box2_step hS hb))
    go_wp2
    go_ret
    exact ⟨rfl, hS.2.2.1⟩
end Go.Proofs.Ytgfnfedgpjenoaa
