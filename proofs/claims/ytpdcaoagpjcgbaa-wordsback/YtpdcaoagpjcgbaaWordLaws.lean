/-
  The walks of the laws on heap.Of and on words and values. It proves no statement by itself.
-/
import Derived.Test.YtpdcaoagpjcgbaaWordWalks
import Derived.Test.YtpdcaoagpjcgbaaPickWalks
import Derived.Deep.RegionHeld3
namespace Go.Proofs.Ytpdcaoagpjcgbaa
open Go.RowKit

set_option maxHeartbeats 400000 in
theorem heapOfs.walk (n : Int) (hn : Fits n) (w : World) :
    Calls Try.prog 11 #[.int .i64 n] w fun e w' => e = .returned (.bool true) ∧ Below w.heap.size w w' := by
  by_cases h1 : n < -1152921504606846976
  · go_enter Try.func11, Try.ntmps11
    go_wp2
    go_ret
    exact ⟨rfl, Below.refl _ _⟩
  · by_cases h2 : 1152921504606846976 < n
    · go_enter Try.func11, Try.ntmps11
      go_wp2
      go_ret
      exact ⟨rfl, Below.refl _ _⟩
    · rcases Int.emod_two_eq n with h | h
      · have C := Lib.hide (of_any n w hn)
        rw [h] at C
        have ht : (n == 2 * (n / 2)) = true := by simp; omega
        have H := Lib.hide h
        clear h hn
        go_enter Try.func11, Try.ntmps11
        go_wp2_with (go_at_call 32; refine C.out.mono ?_; rintro e w' ⟨rfl, hb⟩)
        go_ret
        exact ⟨rfl, hb.alloc hb.size _⟩
      · have C := Lib.hide (of_any n w hn)
        rw [h] at C
        have ht : (n == 2 * (n / 2) + 1) = true := by simp; omega
        have H := Lib.hide h
        clear h hn
        go_enter Try.func11, Try.ntmps11
        go_wp2_with (go_at_call 32; refine C.out.mono ?_; rintro e w' ⟨rfl, hb⟩)
        go_ret
        exact ⟨rfl, hb.alloc hb.size _⟩

theorem box2_start {w : World} {x y : Value} {t : TypeId} : ((w.alloc (.cells #[x, y] t)).drew).cell? ⟨w.heap.size, 0, none⟩ = some x ∧ ((w.alloc (.cells #[x, y] t)).drew).cell? ⟨w.heap.size, 1, none⟩ = some y ∧ Below w.heap.size w (w.alloc (.cells #[x, y] t)).drew ∧ w.heap.size < (w.alloc (.cells #[x, y] t)).drew.heap.size := by
  refine ⟨?_, ?_, ((Below.refl _ _).alloc (Nat.le_refl _) _).drew, ?_⟩ <;> simp

theorem box2_step {w w1 w2 : World} {B : Nat} {x y : Value} (h : w1.cell? ⟨B, 0, none⟩ = some x ∧ w1.cell? ⟨B, 1, none⟩ = some y ∧ Below B w w1 ∧ B < w1.heap.size) (hb : Below w1.heap.size w1 w2) :
    w2.cell? ⟨B, 0, none⟩ = some x ∧ w2.cell? ⟨B, 1, none⟩ = some y ∧ Below B w w2 ∧ B < w2.heap.size :=
  ⟨(hb.cell (p := ⟨B, 0, none⟩) h.2.2.2).trans h.1, (hb.cell (p := ⟨B, 1, none⟩) h.2.2.2).trans h.2.1, h.2.2.1.trans (hb.mono (Nat.le_of_lt h.2.2.2)), Nat.lt_of_lt_of_le h.2.2.2 hb.size⟩

set_option maxHeartbeats 400000 in
theorem wordsBack.walk (n : Int) (hn : Fits n) (o : Bool) (w : World) :
    Calls Try.prog 14 #[.int .i64 n, .bool o] w fun e w' => e = .returned (.bool true) ∧ Below w.heap.size w w' := by
  cases o
  · have hm1 : -1099511627776 < n.tmod 1099511627776 := by have := Int.lt_tmod_of_pos n (b := 1099511627776) (by omega); omega
    have hm2 : n.tmod 1099511627776 < 1099511627776 := Int.tmod_lt_of_pos n (by omega)
    go_enter Try.func14, Try.ntmps14
    go_wp2
    generalize n.tmod 1099511627776 = m at *
    have hw1 : (wordOf 1 0 == 1) = true := by decide
    have hS := box2_start (w := w) (x := .int .i64 0) (y := .int .i64 m) (t := 40)
    go_region_held3 (fun w' => w'.cell? ⟨w.heap.size, 0, none⟩ = some (.int .i64 0) ∧ w'.cell? ⟨w.heap.size, 1, none⟩ = some (.int .i64 m) ∧ Below w.heap.size w w' ∧ w.heap.size < w'.heap.size) (first | exact hS)
      (first | (go_at_call 31; with_reducible refine (word_any _ _ _ (by omega) (by omega)).mono ?_; rintro e w' ⟨rfl, hb⟩; have hS := box2_step hS hb) | (go_at_call 32; with_reducible refine (ofword_any 0 m _ (.inl rfl) (by omega) (by omega)).mono ?_; rintro e w' ⟨rfl, hb⟩; have hS := box2_step hS hb))
    go_wp2
    go_ret
    exact ⟨rfl, hS.2.2.1⟩
  · have hp := pick_lt n 400 (by omega)
    go_enter Try.func14, Try.ntmps14
    go_wp2_with (go_at_call 38; refine (picked_any n 400 _ hn (by omega) (by omega)).mono ?_; rintro e w' ⟨rfl, rfl⟩)
    generalize pick n 400 = m at *
    have hw1 : (wordOf 1 0 == 1) = true := by decide
    have hS := box2_start (w := w) (x := .int .i64 1) (y := .int .i64 m) (t := 40)
    go_region_held3 (fun w' => w'.cell? ⟨w.heap.size, 0, none⟩ = some (.int .i64 1) ∧ w'.cell? ⟨w.heap.size, 1, none⟩ = some (.int .i64 m) ∧ Below w.heap.size w w' ∧ w.heap.size < w'.heap.size) (first | exact hS)
      (first | (go_at_call 31; with_reducible refine (word_any _ _ _ (by omega) (by omega)).mono ?_; rintro e w' ⟨rfl, hb⟩; have hS := box2_step hS hb) | (go_at_call 32; with_reducible refine (ofword_any 1 m _ (.inr rfl) (by omega) (by omega)).mono ?_; rintro e w' ⟨rfl, hb⟩; have hS := box2_step hS hb))
    go_wp2
    go_ret
    exact ⟨rfl, hS.2.2.1⟩
end Go.Proofs.Ytpdcaoagpjcgbaa
