/-
  The walks of the comparisons sameInts and sameHeap, at equal lists. It proves no statement by itself.
-/
import Derived.Test.YtpdcaoagpjcgbaaBase
import Derived.Deep.QuietTactic
import Derived.BigQuiet
namespace Go.Proofs.Ytpdcaoagpjcgbaa
open Go.RowKit

set_option maxHeartbeats 400000 in
theorem sameInts_same (a b : Option Addr) (n ca cb : Nat) (xs : List Int) (w : World) (ha : Ints w a xs) (hb : Ints w b xs) (hn : xs.length = n) (hl : n * 8 ≤ 140737488355328) :
    Calls Try.prog 23 #[.slice a n ca, .slice b n cb] w fun e w' => e = .returned (.bool true) ∧ Below w.heap.size w w' := by
  rcases ha with rfl | ⟨ba, oa, rfl, hla, hca⟩
  · simp only [List.length_nil] at hn
    subst hn
    go_enter Try.func23, Try.ntmps23
    go_wp2
    refine wp_loop_rounds 1 ?_; rw [rounds_succ]
    go_wp2
    go_ret
    exact ⟨rfl, Below.refl _ _⟩
  rcases hb with rfl | ⟨bb, ob, rfl, hlb, hcb⟩
  · simp only [List.length_nil] at hn
    subst hn
    go_enter Try.func23, Try.ntmps23
    go_wp2
    refine wp_loop_rounds 1 ?_; rw [rounds_succ]
    go_wp2
    go_ret
    exact ⟨rfl, Below.refl _ _⟩
  rw [hn] at hca hcb
  have HN := Lib.hide hn
  clear hn
  go_enter Try.func23, Try.ntmps23
  go_wp2
  go_loopw [5] (fun i wr => ∃ k m : Nat, k ≤ n ∧ i = .int .i64 k ∧ wr = w.drewN m) (fun i _ => n - (intOf i).toNat)
  case atStart => exact ⟨0, 0, Nat.zero_le _, rfl, rfl⟩
  case round =>
    obtain ⟨k, m, hk, rfl, rfl⟩ := hrel
    by_cases hlt : k < n
    · have h1 := hca k hlt
      have h2 := hcb k hlt
      generalize xs.getD k 0 = x at *
      have h3 : (x != x) = false := by simp
      clear hca hcb
      go_wp2
      go_quiet (fail)
      go_wp2
      go_roundw
      case rel => exact ⟨k + 1, _, by omega, by go_num, rfl⟩
      case measure => simp [intOf]; omega
    · clear hca hcb
      go_wp2
      go_ret
      exact ⟨rfl, below_drewN (Below.refl _ _) _⟩

set_option maxHeartbeats 400000 in
theorem sameHeap_same (a b : Option Addr) (n ca cb : Nat) (xs : List Int) (t : Int) (w : World) (ha : Ints w a xs) (hb : Ints w b xs) (hn : xs.length = n) (hl : n * 8 ≤ 140737488355328) :
    Calls Try.prog 17 #[.agg #[.slice a n ca, .int .i64 t], .agg #[.slice b n cb, .int .i64 t]] w fun e w' => e = .returned (.bool true) ∧ Below w.heap.size w w' := by
  have h1 := fun (w' : World) (h : Below w.heap.size w w') => sameInts_same a b n ca cb xs w' (ha.below h) (hb.below h) hn hl
  have H1 := Lib.hide h1
  clear h1 ha hb hn
  have ht : (t == t) = true := by simp
  go_enter Try.func17, Try.ntmps17
  go_wp2_with (go_at_call 23; refine (H1.out _ (by repeat (first | exact Below.refl _ _ | assumption | refine Below.drew ?_ | refine below_drewN ?_ _ | refine Below.allocs ?_ | refine Below.next ?_ (by assumption) | refine Below.setCell ?_ (by dsimp only; omega) _))).mono ?_; rintro e w1 ⟨rfl, hb1⟩)
  go_ret
  exact ⟨rfl, (by repeat (first | exact Below.refl _ _ | assumption | refine Below.drew ?_ | refine below_drewN ?_ _ | refine Below.allocs ?_ | refine Below.next ?_ (by assumption) | refine Below.setCell ?_ (by dsimp only; omega) _))⟩
end Go.Proofs.Ytpdcaoagpjcgbaa
