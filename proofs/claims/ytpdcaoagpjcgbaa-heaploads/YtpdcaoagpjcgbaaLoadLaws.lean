/-
  The walk of the law on heap.Load. It proves no statement by itself.
-/
import Derived.Test.YtpdcaoagpjcgbaaCheckLaws
import Derived.Test.YtpdcaoagpjcgbaaLoadRef
namespace Go.Proofs.Ytpdcaoagpjcgbaa
open Go.RowKit

open Lw in
/-- heap.Load and the reference hand back one and the same value and error. -/
theorem loads_same (a : Option Addr) (n cap : Nat) (xs : List Int) (top p f : Int) (w : World) (hh : IsHeap w a n cap xs top) : ∃ k m c : Int,
    (∀ w', Below w.heap.size w w' → Calls Try.prog 27 #[.agg #[.slice a n cap, .int .i64 top], .int .i64 p, .int .i64 f] w' (LoadPost w' k m c)) ∧
    (∀ w', Below w.heap.size w w' → Calls Try.prog 28 #[.agg #[.slice a n cap, .int .i64 top], .int .i64 p, .int .i64 f] w' (LoadPost w' k m c)) := by
  by_cases hv : ∃ l, Valid xs top l
  · obtain ⟨l, hv⟩ := hv
    by_cases hf : HasField xs l p f
    · exact ⟨_, _, _, fun w' hb => load_yes a n cap xs top p f l w' (hh.below hb) hv hf _ rfl, fun w' hb => loadOf_yes a n cap xs top p f l w' (hh.below hb) hv hf _ rfl⟩
    · exact ⟨_, _, _, fun w' hb => load_none a n cap xs top p f l w' (hh.below hb) hv hf, fun w' hb => loadOf_none a n cap xs top p f l w' (hh.below hb) hv hf⟩
  · exact ⟨_, _, _, fun w' hb => load_bad a n cap xs top p f w' (hh.below hb) (not_exists.1 hv), fun w' hb => loadOf_bad a n cap xs top p f w' (hh.below hb) (not_exists.1 hv)⟩

set_option maxHeartbeats 400000 in
theorem heapLoads.walk (a : Option Addr) (cap : Nat) (xs : List Int) (top : Int) (hc : xs.length ≤ cap) (hr : cap * 8 ≤ 140737488351232) (hf : ∀ n ∈ xs, Fits n) (ht : Fits top) (_ : a = none → cap = 0) (p : Int) (_ : Fits p) (f : Int) (_ : Fits f) (w : World) (hi : Ints w a xs) :
    Calls Try.prog 8 #[.agg #[.slice a xs.length cap, .int .i64 top], .int .i64 p, .int .i64 f] w fun e w' => e = .returned (.bool true) ∧ Below w.heap.size w w' := by
  obtain ⟨k, m, c, h1, h2⟩ := loads_same a xs.length cap xs top p f w (isHeap_of hc hr hf ht hi)
  have H1 := Lib.hide h1
  have H2 := Lib.hide h2
  clear h1 h2 hc hr hf ht hi
  generalize xs.length = n at *
  have hcc : (c == c) = true := by simp
  have hkk : (k == k) = true := by simp
  have hmm : (m == m) = true := by simp
  go_enter Try.func8, Try.ntmps8
  go_wp2_with (first
    | (go_at_call 27; refine (H1.out _ (by repeat (first | exact Below.refl _ _ | assumption | refine Below.drew ?_ | refine below_drewN ?_ _ | refine Below.allocs ?_ | refine Below.next ?_ (by assumption) | refine Below.setCell ?_ (by dsimp only; omega) _))).mono ?_; rintro e w1 ⟨rfl, hb1⟩; obtain ⟨qc_hb1, qf_hb1, qs_hb1⟩ := bcell hb1; have hz1 := Below.past hb1)
    | (go_at_call 28; refine (H2.out _ (by repeat (first | exact Below.refl _ _ | assumption | refine Below.drew ?_ | refine below_drewN ?_ _ | refine Below.allocs ?_ | refine Below.next ?_ (by assumption) | refine Below.setCell ?_ (by dsimp only; omega) _))).mono ?_; rintro e w2 ⟨rfl, hb2⟩; obtain ⟨qc_hb2, qf_hb2, qs_hb2⟩ := bcell hb2; have hz2 := Below.past hb2))
  go_ret
  exact ⟨rfl, (by repeat (first | exact Below.refl _ _ | assumption | refine Below.drew ?_ | refine below_drewN ?_ _ | refine Below.allocs ?_ | refine Below.next ?_ (by assumption) | refine Below.setCell ?_ (by dsimp only; omega) _))⟩
end Go.Proofs.Ytpdcaoagpjcgbaa
