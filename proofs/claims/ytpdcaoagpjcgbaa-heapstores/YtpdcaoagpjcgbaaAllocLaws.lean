/-
  The walk of the law on heap.Alloc. It proves no statement by itself.
-/
import Derived.Test.YtpdcaoagpjcgbaaAllocOfWalks
namespace Go.Proofs.Ytpdcaoagpjcgbaa
open Go.RowKit

set_option maxHeartbeats 1600000 in
theorem heapAllocs.walk (a : Option Addr) (cap : Nat) (xs : List Int) (top : Int) (hc : xs.length ≤ cap) (hr : cap * 8 ≤ 140737488351232) (hf : ∀ n ∈ xs, Fits n) (ht : Fits top) (hnil : a = none → cap = 0) (f : Int) (_ : Fits f) (w : World) (hi : Ints w a xs) :
    Calls Try.prog 7 #[.agg #[.slice a xs.length cap, .int .i64 top], .int .i64 f] w fun e w' => e = .returned (.bool true) ∧ Below w.heap.size w w' := by
  have hh := isHeap_of hc hr hf ht hi
  have hs := allocs_same a xs.length cap xs top f w hh
  obtain ⟨n, hn⟩ : ∃ n, xs.length = n := ⟨_, rfl⟩
  rw [hn] at hh hs hc ⊢
  have H := Lib.hide hh
  have HN := Lib.hide hn
  have HF := Lib.hide hf
  have HT := Lib.hide ht
  have HNIL := Lib.hide hnil
  have hn8 : n * 8 ≤ 140737488355328 := by omega
  clear hh hn hf ht hnil hi
  rcases hs with ⟨ys, top', p, hy, h1, h2⟩ | ⟨c, h1, h2⟩
  · have H1 := Lib.hide h1
    have H2 := Lib.hide h2
    have HY := Lib.hide hy
    clear h1 h2 hy
    have hpp : (p == p) = true := by simp
    go_enter Try.func7, Try.ntmps7
    go_wp2_with (first
      | (go_at_call 24; refine (heapCopy_any a n cap xs top _ (H.out.ints.below (by repeat (first | exact Below.refl _ _ | assumption | refine Below.drew ?_ | refine below_drewN ?_ _ | refine Below.allocs ?_ | refine Below.next ?_ (by assumption) | refine Below.setCell ?_ (by dsimp only; omega) _))) HN.out hn8 HNIL.out hc).mono ?_; rintro e w1 ⟨a1, c1, rfl, ho1, hb1⟩; obtain ⟨qc_hb1, qf_hb1, qs_hb1⟩ := bcell hb1; have hz1 := Below.past hb1; have HO1 := Lib.hide ho1; clear ho1)
      | (go_at_call 25; refine (H1.out a1 c1 _ (by repeat (first | exact Below.refl _ _ | assumption | refine Below.drew ?_ | refine below_drewN ?_ _ | refine Below.allocs ?_ | refine Below.next ?_ (by assumption) | refine Below.setCell ?_ (by dsimp only; omega) _)) ((HO1.out.isHeap HF.out HT.out).below (by repeat (first | exact Below.refl _ _ | assumption | refine Below.drew ?_ | refine below_drewN ?_ _ | refine Below.allocs ?_ | refine Below.next ?_ (by assumption) | refine Below.setCell ?_ (by dsimp only; omega) _)))).mono ?_; rintro e w2 ⟨a2, c2, rfl, ho2, hb2⟩; obtain ⟨qc_hb2, qf_hb2, qs_hb2⟩ := bcell hb2; have hz2 := Below.past hb2; have hz3 := Nat.lt_trans hz1 hz2; have HO2 := Lib.hide ho2; clear ho2)
      | (go_at_call 26; refine (H2.out _ (by repeat (first | exact Below.refl _ _ | assumption | refine Below.drew ?_ | refine below_drewN ?_ _ | refine Below.allocs ?_ | refine Below.next ?_ (by assumption) | refine Below.setCell ?_ (by dsimp only; omega) _)) HNIL.out).mono ?_; rintro e w3 ⟨a3, c3, rfl, ho3, hb3⟩; obtain ⟨qc_hb3, qf_hb3, qs_hb3⟩ := bcell hb3; have hz4 := Below.past hb3; have hz5 := Nat.lt_trans hz2 hz4; have hz6 := Nat.lt_trans hz3 hz4; have HO3 := Lib.hide ho3; clear ho3)
      | (go_at_call 17; with_reducible refine (sameHeap_same a2 a3 n c2 c3 ys top' _ (HO2.out.reads.2.below (by repeat (first | exact Below.refl _ _ | assumption | refine Below.drew ?_ | refine below_drewN ?_ _ | refine Below.allocs ?_ | refine Below.next ?_ (by assumption) | refine Below.setCell ?_ (by dsimp only; omega) _))) (HO3.out.reads.2.below (by repeat (first | exact Below.refl _ _ | assumption | refine Below.drew ?_ | refine below_drewN ?_ _ | refine Below.allocs ?_ | refine Below.next ?_ (by assumption) | refine Below.setCell ?_ (by dsimp only; omega) _))) HY.out hn8).mono ?_; rintro e w4 ⟨rfl, hb4⟩; obtain ⟨qc_hb4, qf_hb4, qs_hb4⟩ := bcell hb4; have hz7 := Below.past hb4; have hz8 := Nat.lt_trans hz6 hz7; have hz9 := Nat.lt_trans hz5 hz7)
      | (go_at_call 17; with_reducible refine (sameHeap_same a1 a n c1 cap xs top _ (HO1.out.reads.2.below (by repeat (first | exact Below.refl _ _ | assumption | refine Below.drew ?_ | refine below_drewN ?_ _ | refine Below.allocs ?_ | refine Below.next ?_ (by assumption) | refine Below.setCell ?_ (by dsimp only; omega) _))) (H.out.ints.below (by repeat (first | exact Below.refl _ _ | assumption | refine Below.drew ?_ | refine below_drewN ?_ _ | refine Below.allocs ?_ | refine Below.next ?_ (by assumption) | refine Below.setCell ?_ (by dsimp only; omega) _))) HN.out hn8).mono ?_; rintro e w5 ⟨rfl, hb5⟩))
    go_ret
    exact ⟨rfl, (by repeat (first | exact Below.refl _ _ | assumption | refine Below.drew ?_ | refine below_drewN ?_ _ | refine Below.allocs ?_ | refine Below.next ?_ (by assumption) | refine Below.setCell ?_ (by dsimp only; omega) _))⟩
  · have H1 := Lib.hide h1
    have H2 := Lib.hide h2
    clear h1 h2
    have hpp : (c == c) = true := by simp
    go_enter Try.func7, Try.ntmps7
    go_wp2_with (first
      | (go_at_call 24; refine (heapCopy_any a n cap xs top _ (H.out.ints.below (by repeat (first | exact Below.refl _ _ | assumption | refine Below.drew ?_ | refine below_drewN ?_ _ | refine Below.allocs ?_ | refine Below.next ?_ (by assumption) | refine Below.setCell ?_ (by dsimp only; omega) _))) HN.out hn8 HNIL.out hc).mono ?_; rintro e w1 ⟨a1, c1, rfl, ho1, hb1⟩; obtain ⟨qc_hb1, qf_hb1, qs_hb1⟩ := bcell hb1; have hz1 := Below.past hb1; have HO1 := Lib.hide ho1; clear ho1)
      | (go_at_call 25; refine (H1.out a1 c1 _ (by repeat (first | exact Below.refl _ _ | assumption | refine Below.drew ?_ | refine below_drewN ?_ _ | refine Below.allocs ?_ | refine Below.next ?_ (by assumption) | refine Below.setCell ?_ (by dsimp only; omega) _)) ((HO1.out.isHeap HF.out HT.out).below (by repeat (first | exact Below.refl _ _ | assumption | refine Below.drew ?_ | refine below_drewN ?_ _ | refine Below.allocs ?_ | refine Below.next ?_ (by assumption) | refine Below.setCell ?_ (by dsimp only; omega) _)))).mono ?_; rintro e w2 ⟨rfl, hb2⟩; obtain ⟨qc_hb2, qf_hb2, qs_hb2⟩ := bcell hb2; have hz2 := Below.past hb2; have hz3 := Nat.lt_trans hz1 hz2)
      | (go_at_call 26; refine (H2.out _ (by repeat (first | exact Below.refl _ _ | assumption | refine Below.drew ?_ | refine below_drewN ?_ _ | refine Below.allocs ?_ | refine Below.next ?_ (by assumption) | refine Below.setCell ?_ (by dsimp only; omega) _))).mono ?_; rintro e w3 ⟨rfl, hb3⟩; obtain ⟨qc_hb3, qf_hb3, qs_hb3⟩ := bcell hb3; have hz4 := Below.past hb3; have hz5 := Nat.lt_trans hz2 hz4; have hz6 := Nat.lt_trans hz3 hz4)
      | (go_at_call 17; with_reducible refine (sameHeap_same none none 0 0 0 [] 0 _ (Ints.nil _ _) (Ints.nil _ _) List.length_nil (by omega)).mono ?_; rintro e w4 ⟨rfl, hb4⟩; obtain ⟨qc_hb4, qf_hb4, qs_hb4⟩ := bcell hb4; have hz7 := Below.past hb4; have hz8 := Nat.lt_trans hz6 hz7; have hz9 := Nat.lt_trans hz5 hz7)
      | (go_at_call 17; with_reducible refine (sameHeap_same a1 a n c1 cap xs top _ (HO1.out.reads.2.below (by repeat (first | exact Below.refl _ _ | assumption | refine Below.drew ?_ | refine below_drewN ?_ _ | refine Below.allocs ?_ | refine Below.next ?_ (by assumption) | refine Below.setCell ?_ (by dsimp only; omega) _))) (H.out.ints.below (by repeat (first | exact Below.refl _ _ | assumption | refine Below.drew ?_ | refine below_drewN ?_ _ | refine Below.allocs ?_ | refine Below.next ?_ (by assumption) | refine Below.setCell ?_ (by dsimp only; omega) _))) HN.out hn8).mono ?_; rintro e w5 ⟨rfl, hb5⟩))
    go_ret
    exact ⟨rfl, (by repeat (first | exact Below.refl _ _ | assumption | refine Below.drew ?_ | refine below_drewN ?_ _ | refine Below.allocs ?_ | refine Below.next ?_ (by assumption) | refine Below.setCell ?_ (by dsimp only; omega) _))⟩
end Go.Proofs.Ytpdcaoagpjcgbaa
