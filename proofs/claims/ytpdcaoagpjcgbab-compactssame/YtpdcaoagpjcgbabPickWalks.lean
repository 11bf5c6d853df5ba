/-
  The walk of limewashkeep.picked. It proves no statement by itself.
-/
import Derived.Test.YtpdcaoagpjcgbabBase
set_option linter.unusedVariables false
set_option linter.unusedSimpArgs false
namespace Go.Proofs.Ytpdcaoagpjcgbab
open Go.RowKit

/-- limewashkeep.picked: a number from 0 to many - 1. -/
def pick (n m : Int) : Int := if n < 0 then (-(n + 1)) % m else n % m

theorem pick_lt (n m : Int) (hm : 0 < m) : 0 ≤ pick n m ∧ pick n m < m := by
  unfold pick
  split
  · exact ⟨Int.emod_nonneg _ (by omega), Int.emod_lt_of_pos _ hm⟩
  · exact ⟨Int.emod_nonneg _ (by omega), Int.emod_lt_of_pos _ hm⟩

set_option maxHeartbeats 400000 in
theorem picked_any (n m : Int) (w : World) (hn : Fits n) (hm : 0 < m) (hm2 : m ≤ 1000000) :
    Calls Try.prog 17 #[.int .i64 n, .int .i64 m] w fun e w' => e = .returned (.int .i64 (pick n m)) ∧ w = w' := by
  obtain ⟨h1, h2⟩ := hn
  by_cases h3 : n < 0
  · have hp : pick n m = -((n + 1).tmod m) := by
      simp only [pick, h3, if_true]
      rw [← Int.neg_tmod, Int.tmod_eq_emod_of_nonneg (by omega)]
    rw [hp]
    clear hp
    go_enter Try.func17, Try.ntmps17
    go_wp2
    go_ret
    exact ⟨rfl, rfl⟩
  · have hp : pick n m = n % m := by simp [pick, h3]
    rw [hp]
    clear hp
    go_enter Try.func17, Try.ntmps17
    go_wp2
    go_ret
    exact ⟨rfl, rfl⟩

end Go.Proofs.Ytpdcaoagpjcgbab
