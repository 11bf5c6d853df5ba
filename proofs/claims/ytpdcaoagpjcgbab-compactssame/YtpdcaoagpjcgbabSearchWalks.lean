/-
  The walks of slices.BinarySearch over integers, and of heap.isPlace, isTarget, isNumber, checkValue. It proves no statement by itself.
-/
import Derived.Test.YtpdcaoagpjcgbabFitWalks
set_option linter.unusedVariables false
set_option linter.unusedSimpArgs false
namespace Go.Proofs.Ytpdcaoagpjcgbab
open Go.RowKit

set_option maxHeartbeats 400000 in
theorem less_any (x y : Int) (w : World) : Calls Try.prog 118 #[.int .i64 x, .int .i64 y] w fun e w' => e = .returned (.bool (decide (x < y))) ∧ w = w' := by
  go_enter Try.func118, Try.ntmps118
  go_wp2
  go_ret
  exact ⟨rfl, rfl⟩

def FoundPost (w : World) (x : Int) (zs : List Int) (e : Ending) (w' : World) : Prop := ∃ i : Int, e = .returned (.tuple #[.int .i64 i, .bool (decide (x ∈ zs))]) ∧ w = w'

theorem sorted_at {zs : List Int} (hs : zs.Pairwise (· < ·)) {i j : Nat} (hij : i < j) (hj : j < zs.length) : zs.getD i 0 < zs.getD j 0 := by
  have := List.pairwise_iff_getElem.1 hs i j (by omega) hj hij
  simpa [List.getD_eq_getElem?_getD, List.getElem?_eq_getElem hj, List.getElem?_eq_getElem (show i < zs.length by omega)] using this

theorem mem_at {zs : List Int} {x : Int} : x ∈ zs ↔ ∃ i, i < zs.length ∧ zs.getD i 0 = x := by
  rw [List.mem_iff_getElem]
  constructor
  · rintro ⟨i, hi, h⟩
    exact ⟨i, hi, by simpa [List.getD_eq_getElem?_getD, List.getElem?_eq_getElem hi] using h⟩
  · rintro ⟨i, hi, h⟩
    exact ⟨i, hi, by simpa [List.getD_eq_getElem?_getD, List.getElem?_eq_getElem hi] using h⟩

set_option maxHeartbeats 800000 in
theorem bs_any (a : Option Addr) (n cap : Nat) (zs : List Int) (x : Int) (w : World) (hi : Ints w a zs) (hz : zs.length = n) (hn : n ≤ 400) (hs : zs.Pairwise (· < ·)) :
    Calls Try.prog 103 #[.slice a n cap, .int .i64 x] w (FoundPost w x zs) := by
  have HI := Lib.hide hi
  have HZ := Lib.hide hz
  have HS := Lib.hide hs
  clear hi hz hs
  go_enter Try.func103, Try.ntmps103
  go_wp2
  go_loop [7, 8] (fun u v => ∃ i j : Nat, i ≤ j ∧ j ≤ n ∧ u = .int .i64 i ∧ v = .int .i64 j ∧ (∀ k, k < i → zs.getD k 0 < x) ∧ ∀ k, j ≤ k → k < n → x ≤ zs.getD k 0) (fun u v => (intOf v).toNat - (intOf u).toNat)
  case atStart => exact ⟨0, n, Nat.zero_le _, Nat.le_refl _, rfl, rfl, fun k hk => absurd hk (Nat.not_lt_zero _), fun k h1 h2 => by omega⟩
  case round =>
    obtain ⟨i, j, hij, hjn, rfl, rfl, hlo, hhi⟩ := hrel
    have HLO := Lib.hide hlo
    have HHI := Lib.hide hhi
    clear hlo hhi
    by_cases hlt : i < j
    · obtain ⟨b, o, rfl, hb, hc⟩ := HI.out.at (by rw [HZ.out]; omega)
      have e1 := hc ((i + j) / 2) (by rw [HZ.out]; omega)
      clear hc
      obtain ⟨y, hy⟩ : ∃ y, zs.getD ((i + j) / 2) 0 = y := ⟨_, rfl⟩
      rw [hy] at e1
      have HY := Lib.hide hy
      clear hy
      by_cases hyx : y < x
      · have hd : decide (y < x) = true := by simpa using hyx
        go_wp2_with (go_at_call 118; refine (less_any y x _).mono ?_; rintro e w' ⟨rfl, rfl⟩)
        go_round
        case rel =>
          refine ⟨(i + j) / 2 + 1, j, by omega, hjn, by go_num, rfl, fun k hk => ?_, HHI.out⟩
          rcases Nat.lt_or_ge k ((i + j) / 2) with h | h
          · have := sorted_at HS.out h (by rw [HZ.out]; omega)
            rw [HY.out] at this
            omega
          · obtain rfl : k = (i + j) / 2 := by omega
            rw [HY.out]; exact hyx
        case measure => simp [intOf]; omega
      · have hd : decide (y < x) = false := by simpa using hyx
        go_wp2_with (go_at_call 118; refine (less_any y x _).mono ?_; rintro e w' ⟨rfl, rfl⟩)
        go_round
        case rel =>
          refine ⟨i, (i + j) / 2, by omega, by omega, rfl, by go_num, HLO.out, fun k h1 h2 => ?_⟩
          rcases Nat.lt_or_ge ((i + j) / 2) k with h | h
          · have := sorted_at HS.out h (by rw [HZ.out]; omega)
            rw [HY.out] at this
            omega
          · obtain rfl : k = (i + j) / 2 := by omega
            rw [HY.out]; omega
        case measure => simp [intOf]; omega
    · obtain rfl : i = j := by omega
      by_cases hin : i < n
      · obtain ⟨b, o, rfl, hb, hc⟩ := HI.out.at (by rw [HZ.out]; omega)
        have e1 := hc i (by rw [HZ.out]; omega)
        clear hc
        obtain ⟨y, hy⟩ : ∃ y, zs.getD i 0 = y := ⟨_, rfl⟩
        rw [hy] at e1
        have HY := Lib.hide hy
        clear hy
        by_cases hyx : y = x
        · have hm : decide (x ∈ zs) = true := decide_eq_true (mem_at.2 ⟨i, by rw [HZ.out]; exact hin, HY.out.trans hyx⟩)
          have HM := Lib.hide hm
          have hd : (y == x) = true := by simpa using hyx
          clear hm hyx
          go_wp2
          go_ret2
          refine ⟨i, ?_, rfl⟩
          rw [HM.out]; rfl
        · have hm : decide (x ∈ zs) = false := by
            rw [decide_eq_false_iff_not, mem_at]
            rintro ⟨k, hk, hkx⟩
            rw [HZ.out] at hk
            rcases Nat.lt_trichotomy k i with h | h | h
            · have := HLO.out k h; omega
            · subst h; exact hyx (HY.out.symm.trans hkx)
            · have h2 := sorted_at HS.out h (by rw [HZ.out]; omega)
              have h3 := HHI.out i (Nat.le_refl _) hin
              omega
          have HM := Lib.hide hm
          have hd : (y == x) = false := by simpa using hyx
          have hq : (y != y) = false := by simp
          clear hm hyx
          go_wp2
          go_ret2
          refine ⟨i, ?_, rfl⟩
          rw [HM.out]; rfl
      · obtain rfl : i = n := by omega
        have hm : decide (x ∈ zs) = false := by
          rw [decide_eq_false_iff_not, mem_at]
          rintro ⟨k, hk, hkx⟩
          rw [HZ.out] at hk
          have := HLO.out k hk
          omega
        have HM := Lib.hide hm
        clear hm
        go_wp2
        go_ret2
        refine ⟨i, ?_, rfl⟩
        rw [HM.out]; rfl

set_option maxHeartbeats 400000 in
theorem isPlace_any (a : Option Addr) (n cap : Nat) (zs : List Int) (x : Int) (w : World) (hi : Ints w a zs) (hz : zs.length = n) (hn : n ≤ 400) (hs : zs.Pairwise (· < ·)) (r : Bool) (hr : decide (x ∈ zs) = r) :
    Calls Try.prog 76 #[.slice a n cap, .int .i64 x] w fun e w' => e = .returned (.bool r) ∧ w = w' := by
  have C := Lib.hide (bs_any a n cap zs x w hi hz hn hs)
  have HR := Lib.hide hr
  clear hi hz hs hr
  go_enter Try.func76, Try.ntmps76
  go_wp2_with (go_at_call 103; refine C.out.mono ?_; rintro e w' ⟨i, rfl, rfl⟩; rw [HR.out])
  go_ret
  exact ⟨rfl, rfl⟩

set_option maxHeartbeats 400000 in
theorem isTarget_any (a : Option Addr) (n cap : Nat) (zs : List Int) (x : Int) (w : World) (hi : Ints w a zs) (hz : zs.length = n) (hn : n ≤ 400) (hs : zs.Pairwise (· < ·)) (r : Bool) (hr : decide (x = 0 ∨ x ∈ zs) = r) :
    Calls Try.prog 78 #[.slice a n cap, .int .i64 x] w fun e w' => e = .returned (.bool r) ∧ w = w' := by
  by_cases hx : x = 0
  · subst hx
    obtain rfl : r = true := by rw [← hr]; simp
    clear hi hz hs hr
    go_enter Try.func78, Try.ntmps78
    go_wp2
    go_ret
    exact ⟨rfl, rfl⟩
  · have hd : (x == 0) = false := by simpa using hx
    have C := Lib.hide (isPlace_any a n cap zs x w hi hz hn hs r (by rw [← hr]; simp [hx]))
    clear hi hz hs hr hx
    go_enter Try.func78, Try.ntmps78
    go_wp2_with (go_at_call 76; refine C.out.mono ?_; rintro e w' ⟨rfl, rfl⟩)
    go_ret
    exact ⟨rfl, rfl⟩

set_option maxHeartbeats 400000 in
theorem isNumber_any (x : Int) (w : World) (r : Bool) (hr : decide (-1099511627776 ≤ x ∧ x ≤ 1099511627776) = r) :
    Calls Try.prog 77 #[.int .i64 x] w fun e w' => e = .returned (.bool r) ∧ w = w' := by
  by_cases h1 : -1099511627776 ≤ x
  · by_cases h2 : x ≤ 1099511627776
    · obtain rfl : r = true := by rw [← hr]; simp; omega
      clear hr
      go_enter Try.func77, Try.ntmps77
      go_wp2
      go_ret
      exact ⟨rfl, rfl⟩
    · obtain rfl : r = false := by rw [← hr]; simp; omega
      have h3 : decide (x ≤ 1099511627776) = false := by simpa using h2
      clear hr
      go_enter Try.func77, Try.ntmps77
      go_wp2
      go_ret
      exact ⟨rfl, rfl⟩
  · obtain rfl : r = false := by rw [← hr]; simp; omega
    have h3 : decide (-1099511627776 ≤ x) = false := by simpa using h1
    clear hr
    go_enter Try.func77, Try.ntmps77
    go_wp2
    go_ret
    exact ⟨rfl, rfl⟩

/-- The error of a value that a field is to hold. -/
def codeOf (zs : List Int) (k n : Int) : Int :=
  if k = 0 then (if -1099511627776 ≤ n ∧ n ≤ 1099511627776 then 0 else 2) else if k = 1 then (if n = 0 ∨ n ∈ zs then 0 else 4) else 3

set_option maxHeartbeats 800000 in
theorem checkValue_any (a : Option Addr) (m cap : Nat) (zs : List Int) (k n : Int) (w : World) (hi : Ints w a zs) (hz : zs.length = m) (hm : m ≤ 400) (hs : zs.Pairwise (· < ·)) (c : Int) (hc : codeOf zs k n = c) :
    Calls Try.prog 53 #[.slice a m cap, .agg #[.int .i64 k, .int .i64 n]] w fun e w' => e = .returned (.int .i64 c) ∧ Below w.heap.size w w' := by
  by_cases hk : k = 0
  · subst hk
    by_cases h : -1099511627776 ≤ n ∧ n ≤ 1099511627776
    · obtain rfl : c = 0 := by rw [← hc]; simp [codeOf, h]
      clear hi hs hc
      go_enter Try.func53, Try.ntmps53
      go_wp2_with (go_at_call 77; refine (isNumber_any n _ true (decide_eq_true h)).mono ?_; rintro e w' ⟨rfl, rfl⟩)
      go_ret
      exact ⟨rfl, (by repeat (first | exact Below.refl _ _ | assumption | refine Below.drew ?_ | refine below_drewN ?_ _ | refine Below.allocs ?_ | refine Below.next ?_ (by assumption) | refine Below.setCell ?_ (by dsimp only; omega) _))⟩
    · obtain rfl : c = 2 := by rw [← hc]; simp [codeOf, h]
      clear hi hs hc
      go_enter Try.func53, Try.ntmps53
      go_wp2_with (go_at_call 77; refine (isNumber_any n _ false (decide_eq_false h)).mono ?_; rintro e w' ⟨rfl, rfl⟩)
      go_ret
      exact ⟨rfl, (by repeat (first | exact Below.refl _ _ | assumption | refine Below.drew ?_ | refine below_drewN ?_ _ | refine Below.allocs ?_ | refine Below.next ?_ (by assumption) | refine Below.setCell ?_ (by dsimp only; omega) _))⟩
  · have hd : (k == 0) = false := by simpa using hk
    by_cases hk1 : k = 1
    · subst hk1
      have HI := Lib.hide hi
      have HS := Lib.hide hs
      have HZ := Lib.hide hz
      by_cases h : n = 0 ∨ n ∈ zs
      · obtain rfl : c = 0 := by rw [← hc]; simp [codeOf, h]
        have H := Lib.hide h
        clear hi hs hc hk h hz
        go_enter Try.func53, Try.ntmps53
        go_wp2_with (go_at_call 78; refine (isTarget_any a m cap zs n _ (HI.out.below (by repeat (first | exact Below.refl _ _ | assumption | refine Below.drew ?_ | refine below_drewN ?_ _ | refine Below.allocs ?_ | refine Below.next ?_ (by assumption) | refine Below.setCell ?_ (by dsimp only; omega) _))) HZ.out hm HS.out true (decide_eq_true H.out)).mono ?_; rintro e w' ⟨rfl, rfl⟩)
        go_ret
        exact ⟨rfl, (by repeat (first | exact Below.refl _ _ | assumption | refine Below.drew ?_ | refine below_drewN ?_ _ | refine Below.allocs ?_ | refine Below.next ?_ (by assumption) | refine Below.setCell ?_ (by dsimp only; omega) _))⟩
      · obtain rfl : c = 4 := by rw [← hc]; simp [codeOf, h]
        have H := Lib.hide h
        clear hi hs hc hk h hz
        go_enter Try.func53, Try.ntmps53
        go_wp2_with (go_at_call 78; refine (isTarget_any a m cap zs n _ (HI.out.below (by repeat (first | exact Below.refl _ _ | assumption | refine Below.drew ?_ | refine below_drewN ?_ _ | refine Below.allocs ?_ | refine Below.next ?_ (by assumption) | refine Below.setCell ?_ (by dsimp only; omega) _))) HZ.out hm HS.out false (decide_eq_false H.out)).mono ?_; rintro e w' ⟨rfl, rfl⟩)
        go_ret
        exact ⟨rfl, (by repeat (first | exact Below.refl _ _ | assumption | refine Below.drew ?_ | refine below_drewN ?_ _ | refine Below.allocs ?_ | refine Below.next ?_ (by assumption) | refine Below.setCell ?_ (by dsimp only; omega) _))⟩
    · obtain rfl : c = 3 := by rw [← hc]; simp [codeOf, hk, hk1]
      have hd1 : (k == 1) = false := by simpa using hk1
      clear hi hs hc hk hk1
      go_enter Try.func53, Try.ntmps53
      go_wp2
      go_ret
      exact ⟨rfl, (by repeat (first | exact Below.refl _ _ | assumption | refine Below.drew ?_ | refine below_drewN ?_ _ | refine Below.allocs ?_ | refine Below.next ?_ (by assumption) | refine Below.setCell ?_ (by dsimp only; omega) _))⟩
end Go.Proofs.Ytpdcaoagpjcgbab
