/-
  The walk of the law on heap.Copy. It proves no statement by itself.
-/
import Derived.Test.YtpdcaoagpjcgbaaSameWalks
import Derived.Test.YtpdcaoagpjcgbaaCopyWalks
namespace Go.Proofs.Ytpdcaoagpjcgbaa
open Go.RowKit

set_option maxHeartbeats 400000 in
theorem heapCopies.walk (a : Option Addr) (cap : Nat) (xs : List Int) (top : Int) (hc : xs.length ≤ cap) (hr : cap * 8 ≤ 140737488351232) (_ : ∀ n ∈ xs, Fits n) (_ : Fits top) (_ : a = none → cap = 0) (w : World) (hi : Ints w a xs) :
    Calls Try.prog 4 #[.agg #[.slice a xs.length cap, .int .i64 top]] w fun e w' => e = .returned (.bool true) ∧ Below w.heap.size w w' := by
  obtain ⟨n, hn⟩ : ∃ n, xs.length = n := ⟨_, rfl⟩
  rw [hn] at hc ⊢
  have HI := Lib.hide hi
  have HN := Lib.hide hn
  clear hi hn
  go_enter Try.func4, Try.ntmps4
  go_wp2_with (first
    | (go_at_call 18; refine (copy_any a n cap xs top _ (HI.out.below (by repeat (first | exact Below.refl _ _ | assumption | refine Below.drew ?_ | refine below_drewN ?_ _ | refine Below.allocs ?_ | refine Below.next ?_ (by assumption) | refine Below.setCell ?_ (by dsimp only; omega) _))) HN.out (by omega)).mono ?_; rintro e w1 ⟨a1, c1, rfl, ho1, hb1⟩; obtain ⟨hc1, hf1, hs1⟩ := bcell hb1; have hz1 := Below.past hb1; clear hs1; have OL1 := Lib.hide ho1; clear ho1)
    | (go_at_call 17; refine (sameHeap_same a1 a n c1 cap xs top _ (OL1.out.reads.2.below (by repeat (first | exact Below.refl _ _ | assumption | refine Below.drew ?_ | refine below_drewN ?_ _ | refine Below.allocs ?_ | refine Below.next ?_ (by assumption) | refine Below.setCell ?_ (by dsimp only; omega) _))) (HI.out.below (by repeat (first | exact Below.refl _ _ | assumption | refine Below.drew ?_ | refine below_drewN ?_ _ | refine Below.allocs ?_ | refine Below.next ?_ (by assumption) | refine Below.setCell ?_ (by dsimp only; omega) _))) HN.out (by omega)).mono ?_; rintro e w3 ⟨rfl, hb3⟩))
  go_ret
  exact ⟨rfl, (by repeat (first | exact Below.refl _ _ | assumption | refine Below.drew ?_ | refine below_drewN ?_ _ | refine Below.allocs ?_ | refine Below.next ?_ (by assumption) | refine Below.setCell ?_ (by dsimp only; omega) _))⟩
end Go.Proofs.Ytpdcaoagpjcgbaa
