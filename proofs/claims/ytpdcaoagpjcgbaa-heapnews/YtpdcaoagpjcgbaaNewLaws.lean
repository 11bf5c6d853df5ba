/-
  The walk of the law on heap.New. It proves no statement by itself.
-/
import Derived.Test.YtpdcaoagpjcgbaaSameWalks
import Derived.Test.YtpdcaoagpjcgbaaNewRef
namespace Go.Proofs.Ytpdcaoagpjcgbaa
open Go.RowKit

set_option maxHeartbeats 400000 in
theorem heapNews.walk (n : Int) (_ : Fits n) (w : World) :
    Calls Try.prog 3 #[.int .i64 n] w fun e w' => e = .returned (.bool true) ∧ Below w.heap.size w w' := by
  by_cases h : 1 ≤ n ∧ n ≤ 400
  · obtain ⟨m, rfl⟩ := Int.eq_ofNat_of_zero_le (a := n) (by omega)
    have h1 : 1 ≤ m := by omega
    have h2 : m ≤ 400 := by omega
    clear h
    go_enter Try.func3, Try.ntmps3
    go_wp2_with (first
      | (go_at_call 15; refine (new_yes m _ h1 h2).mono ?_; rintro e w1 ⟨a1, c1, rfl, ho1, hb1⟩; obtain ⟨hc1, hf1, hs1⟩ := bcell hb1; have OL1 := Lib.hide ho1; clear ho1)
      | (go_at_call 16; refine (heapOf_yes m _ h1 h2).mono ?_; rintro e w2 ⟨a2, c2, rfl, ho2, hb2⟩; obtain ⟨hc2, hf2, hs2⟩ := bcell hb2; have hz2 := Below.past hb2; clear hs2; have OL2 := Lib.hide ho2; clear ho2)
      | (go_at_call 17; refine (sameHeap_same a1 a2 m c1 c2 (List.replicate m 0) 1 _ (OL1.out.reads.2.below (by repeat (first | exact Below.refl _ _ | assumption | refine Below.drew ?_ | refine below_drewN ?_ _ | refine Below.allocs ?_ | refine Below.next ?_ (by assumption) | refine Below.setCell ?_ (by dsimp only; omega) _))) (OL2.out.reads.2.below (by repeat (first | exact Below.refl _ _ | assumption | refine Below.drew ?_ | refine below_drewN ?_ _ | refine Below.allocs ?_ | refine Below.next ?_ (by assumption) | refine Below.setCell ?_ (by dsimp only; omega) _))) (by simp) (by omega)).mono ?_; rintro e w3 ⟨rfl, hb3⟩))
    go_ret
    exact ⟨rfl, (by repeat (first | exact Below.refl _ _ | assumption | refine Below.drew ?_ | refine below_drewN ?_ _ | refine Below.allocs ?_ | refine Below.next ?_ (by assumption) | refine Below.setCell ?_ (by dsimp only; omega) _))⟩
  · have h' : n < 1 ∨ 400 < n := by omega
    clear h
    go_enter Try.func3, Try.ntmps3
    go_wp2_with (first
      | (go_at_call 15; refine (new_no n _ h').mono ?_; rintro e w1 ⟨rfl, hb1⟩; obtain ⟨hc1, hf1, hs1⟩ := bcell hb1)
      | (go_at_call 16; refine (heapOf_no n _ h').mono ?_; rintro e w2 ⟨rfl, hb2⟩; obtain ⟨hc2, hf2, hs2⟩ := bcell hb2; have hz2 := Below.past hb2; clear hs2)
      | (go_at_call 17; refine (sameHeap_same none none 0 0 0 [] 0 _ (.inl rfl) (.inl rfl) rfl (by omega)).mono ?_; rintro e w3 ⟨rfl, hb3⟩))
    go_ret
    exact ⟨rfl, (by repeat (first | exact Below.refl _ _ | assumption | refine Below.drew ?_ | refine below_drewN ?_ _ | refine Below.allocs ?_ | refine Below.next ?_ (by assumption) | refine Below.setCell ?_ (by dsimp only; omega) _))⟩
end Go.Proofs.Ytpdcaoagpjcgbaa
