/-
  The walk of the law on heap.Store. It proves no statement by itself.
-/
import Derived.Test.YtpdcaoagpjcgbaaStoreOfWalks
import Derived.Test.YtpdcaoagpjcgbaaAllocLaws
namespace Go.Proofs.Ytpdcaoagpjcgbaa
open Go.RowKit

open Lw in
/-- heap.Store and the reference hand back the same: both a heap, or both one and the same error. -/
theorem stores_same (a : Option Addr) (n cap : Nat) (xs : List Int) (top p f k m : Int) (w : World) (hh : IsHeap w a n cap xs top) :
    (∃ (ys : List Int), ys.length = n ∧ (∀ a' cap' w', Below w.heap.size w w' → IsHeap w' a' n cap' xs top → Calls Try.prog 29 #[.agg #[.slice a' n cap', .int .i64 top], .int .i64 p, .int .i64 f, .agg #[.int .i64 k, .int .i64 m]] w' (StorePost w' ys n top)) ∧
      (∀ w', Below w.heap.size w w' → (a = none → cap = 0) → Calls Try.prog 30 #[.agg #[.slice a n cap, .int .i64 top], .int .i64 p, .int .i64 f, .agg #[.int .i64 k, .int .i64 m]] w' (StorePost w' ys n top))) ∨
    (∃ c : Int, (∀ a' cap' w', Below w.heap.size w w' → IsHeap w' a' n cap' xs top → Calls Try.prog 29 #[.agg #[.slice a' n cap', .int .i64 top], .int .i64 p, .int .i64 f, .agg #[.int .i64 k, .int .i64 m]] w' (StoreNo w' c)) ∧
      (∀ w', Below w.heap.size w w' → Calls Try.prog 30 #[.agg #[.slice a n cap, .int .i64 top], .int .i64 p, .int .i64 f, .agg #[.int .i64 k, .int .i64 m]] w' (StoreNo w' c))) := by
  by_cases hv : ∃ l, Valid xs top l
  · obtain ⟨l, hv⟩ := hv
    by_cases hf : HasField xs l p f
    · by_cases hc : codeOf (nums l) k m = 0
      · obtain ⟨q, g, rfl, rfl, _⟩ := hf.where (Objects.laid hv.objects)
        exact .inl ⟨_, by rw [List.length_set]; exact hh.len, fun a' cap' w' _ h => store_yes a' n cap' xs top k m q g l w' h hv hf hc, fun w' hb hn => storeOf_yes a n cap xs top k m q g l w' (hh.below hb) hn hv hf hc⟩
      · exact .inr ⟨_, fun a' cap' w' _ h => store_code a' n cap' xs top p f k m _ l w' h hv hf rfl hc, fun w' hb => storeOf_code a n cap xs top p f k m _ l w' (hh.below hb) hv hf rfl hc⟩
    · exact .inr ⟨4, fun a' cap' w' _ h => store_none a' n cap' xs top p f k m l w' h hv hf,
        fun w' hb => storeOf_err a n cap top p f k m 4 w' (by decide) (fun w2 hb2 => loadOf_none a n cap xs top p f l w2 (hh.below (Below.next hb hb2)) hv hf)⟩
  · exact .inr ⟨5, fun a' cap' w' _ h => store_bad a' n cap' xs top p f k m w' h (not_exists.1 hv),
      fun w' hb => storeOf_err a n cap top p f k m 5 w' (by decide) (fun w2 hb2 => loadOf_bad a n cap xs top p f w2 (hh.below (Below.next hb hb2)) (not_exists.1 hv))⟩

set_option maxHeartbeats 1600000 in
theorem heapStores.walk (a : Option Addr) (cap : Nat) (xs : List Int) (top : Int) (hc : xs.length ≤ cap) (hr : cap * 8 ≤ 140737488351232) (hf : ∀ n ∈ xs, Fits n) (ht : Fits top) (hnil : a = none → cap = 0) (p : Int) (_ : Fits p) (f : Int) (_ : Fits f) (k m : Int) (_ : Fits k) (_ : Fits m) (w : World) (hi : Ints w a xs) :
    Calls Try.prog 9 #[.agg #[.slice a xs.length cap, .int .i64 top], .int .i64 p, .int .i64 f, .agg #[.int .i64 k, .int .i64 m]] w fun e w' => e = .returned (.bool true) ∧ Below w.heap.size w w' := by
  have hh := isHeap_of hc hr hf ht hi
  have hs := stores_same a xs.length cap xs top p f k m w hh
  obtain ⟨n, hn⟩ : ∃ n, xs.length = n := ⟨_, rfl⟩
  rw [hn] at hh hs hc ⊢
  have H := Lib.hide hh
  have HN := Lib.hide hn
  have HF := Lib.hide hf
  have HT := Lib.hide ht
  have HNIL := Lib.hide hnil
  have hn8 : n * 8 ≤ 140737488355328 := by omega
  clear hh hn hf ht hnil hi
  have hst : w.heap.size < w.heap.size + 1 := Nat.lt_succ_self _
  rcases hs with ⟨ys, hy, h1, h2⟩ | ⟨c, h1, h2⟩
  · have H1 := Lib.hide h1
    have H2 := Lib.hide h2
    have HY := Lib.hide hy
    clear h1 h2 hy
    go_enter Try.func9, Try.ntmps9
    go_wp2_with (first
      | (go_at_call 24; refine (heapCopy_any a n cap xs top _ (H.out.ints.below (by repeat (first | exact Below.refl _ _ | assumption | refine Below.drew ?_ | refine below_drewN ?_ _ | refine Below.allocs ?_ | refine Below.next ?_ (by assumption) | refine Below.setCell ?_ (by dsimp only; omega) _))) HN.out hn8 HNIL.out hc).mono ?_; rintro e w1 ⟨a1, c1, rfl, ho1, hb1⟩; have HH1 := Lib.hide (((Box2.new w (.slice a n cap) (.int .i64 top) 24).alloc (.cells #[.int .i64 k, .int .i64 m] 40)).next hb1); have HV1 := Lib.hide ((Box2.new (w.alloc (.cells #[.slice a n cap, .int .i64 top] 24)) (.int .i64 k) (.int .i64 m) 40).next hb1); have hv1 := HV1.out; rw [show (w.alloc (.cells #[.slice a n cap, .int .i64 top] 24)).heap.size = w.heap.size + 1 by simp] at hv1; clear HV1; have HV1 := Lib.hide hv1; obtain ⟨q0, q1, q2, q3, q4⟩ := hv1; have HO1 := Lib.hide ho1; clear ho1)
      | (go_at_call 29; refine (H1.out a1 c1 _ (by repeat (first | exact Below.refl _ _ | assumption | refine Below.drew ?_ | refine below_drewN ?_ _ | refine Below.allocs ?_ | refine Below.next ?_ (by assumption) | refine Below.setCell ?_ (by dsimp only; omega) _)) ((HO1.out.isHeap HF.out HT.out).below (by repeat (first | exact Below.refl _ _ | assumption | refine Below.drew ?_ | refine below_drewN ?_ _ | refine Below.allocs ?_ | refine Below.next ?_ (by assumption) | refine Below.setCell ?_ (by dsimp only; omega) _)))).mono ?_; rintro e w2 ⟨a2, c2, rfl, ho2, hb2⟩; have HK2 := Lib.hide ((Box2.new w1 (.slice a1 n c1) (.int .i64 top) 24).next hb2); have HH2 := Lib.hide ((HH1.out.alloc _).next hb2); have HV2 := Lib.hide ((HV1.out.alloc _).next hb2); obtain ⟨r0, r1, r2, r3, r4⟩ := HH2.out; obtain ⟨s0, s1, s2, s3, s4⟩ := HV2.out; have HO2 := Lib.hide ho2; clear ho2)
      | (go_at_call 30; refine (H2.out _ (by repeat (first | exact Below.refl _ _ | assumption | refine Below.drew ?_ | refine below_drewN ?_ _ | refine Below.allocs ?_ | refine Below.next ?_ (by assumption) | refine Below.setCell ?_ (by dsimp only; omega) _)) HNIL.out).mono ?_; rintro e w3 ⟨a3, c3, rfl, ho3, hb3⟩; have HA3 := Lib.hide ((Box2.new w2 (.slice a2 n c2) (.int .i64 top) 24).next hb3); obtain ⟨t0, t1, t2, t3, t4⟩ := HA3.out; have HK3 := Lib.hide ((HK2.out.alloc _).next hb3); have HH3 := Lib.hide ((HH2.out.alloc _).next hb3); have HO3 := Lib.hide ho3; clear ho3)
      | (go_at_call 17; with_reducible refine (sameHeap_same a2 a3 n c2 c3 ys top _ (HO2.out.reads.2.below (by repeat (first | exact Below.refl _ _ | assumption | refine Below.drew ?_ | refine below_drewN ?_ _ | refine Below.allocs ?_ | refine Below.next ?_ (by assumption) | refine Below.setCell ?_ (by dsimp only; omega) _))) (HO3.out.reads.2.below (by repeat (first | exact Below.refl _ _ | assumption | refine Below.drew ?_ | refine below_drewN ?_ _ | refine Below.allocs ?_ | refine Below.next ?_ (by assumption) | refine Below.setCell ?_ (by dsimp only; omega) _))) HY.out hn8).mono ?_; rintro e w4 ⟨rfl, hb4⟩; obtain ⟨u0, u1, u2, u3, u4⟩ := (HK3.out.alloc _).next hb4; obtain ⟨v0, v1, v2, v3, v4⟩ := (HH3.out.alloc _).next hb4)
      | (go_at_call 17; with_reducible refine (sameHeap_same a1 a n c1 cap xs top _ (HO1.out.reads.2.below (by repeat (first | exact Below.refl _ _ | assumption | refine Below.drew ?_ | refine below_drewN ?_ _ | refine Below.allocs ?_ | refine Below.next ?_ (by assumption) | refine Below.setCell ?_ (by dsimp only; omega) _))) (H.out.ints.below (by repeat (first | exact Below.refl _ _ | assumption | refine Below.drew ?_ | refine below_drewN ?_ _ | refine Below.allocs ?_ | refine Below.next ?_ (by assumption) | refine Below.setCell ?_ (by dsimp only; omega) _))) HN.out hn8).mono ?_; rintro e w5 ⟨rfl, hb5⟩))
    go_ret
    exact ⟨rfl, (by repeat (first | exact Below.refl _ _ | assumption | refine Below.drew ?_ | refine below_drewN ?_ _ | refine Below.allocs ?_ | refine Below.next ?_ (by assumption) | refine Below.setCell ?_ (by dsimp only; omega) _))⟩
  · have H1 := Lib.hide h1
    have H2 := Lib.hide h2
    clear h1 h2
    have hpp : (c == c) = true := by simp
    go_enter Try.func9, Try.ntmps9
    go_wp2_with (first
      | (go_at_call 24; refine (heapCopy_any a n cap xs top _ (H.out.ints.below (by repeat (first | exact Below.refl _ _ | assumption | refine Below.drew ?_ | refine below_drewN ?_ _ | refine Below.allocs ?_ | refine Below.next ?_ (by assumption) | refine Below.setCell ?_ (by dsimp only; omega) _))) HN.out hn8 HNIL.out hc).mono ?_; rintro e w1 ⟨a1, c1, rfl, ho1, hb1⟩; have HH1 := Lib.hide (((Box2.new w (.slice a n cap) (.int .i64 top) 24).alloc (.cells #[.int .i64 k, .int .i64 m] 40)).next hb1); have HV1 := Lib.hide ((Box2.new (w.alloc (.cells #[.slice a n cap, .int .i64 top] 24)) (.int .i64 k) (.int .i64 m) 40).next hb1); have hv1 := HV1.out; rw [show (w.alloc (.cells #[.slice a n cap, .int .i64 top] 24)).heap.size = w.heap.size + 1 by simp] at hv1; clear HV1; have HV1 := Lib.hide hv1; obtain ⟨q0, q1, q2, q3, q4⟩ := hv1; have HO1 := Lib.hide ho1; clear ho1)
      | (go_at_call 29; refine (H1.out a1 c1 _ (by repeat (first | exact Below.refl _ _ | assumption | refine Below.drew ?_ | refine below_drewN ?_ _ | refine Below.allocs ?_ | refine Below.next ?_ (by assumption) | refine Below.setCell ?_ (by dsimp only; omega) _)) ((HO1.out.isHeap HF.out HT.out).below (by repeat (first | exact Below.refl _ _ | assumption | refine Below.drew ?_ | refine below_drewN ?_ _ | refine Below.allocs ?_ | refine Below.next ?_ (by assumption) | refine Below.setCell ?_ (by dsimp only; omega) _)))).mono ?_; rintro e w2 ⟨rfl, hb2⟩; have HK2 := Lib.hide ((Box2.new w1 (.slice a1 n c1) (.int .i64 top) 24).next hb2); have HH2 := Lib.hide ((HH1.out.alloc _).next hb2); have HV2 := Lib.hide ((HV1.out.alloc _).next hb2); obtain ⟨r0, r1, r2, r3, r4⟩ := HH2.out; obtain ⟨s0, s1, s2, s3, s4⟩ := HV2.out)
      | (go_at_call 30; refine (H2.out _ (by repeat (first | exact Below.refl _ _ | assumption | refine Below.drew ?_ | refine below_drewN ?_ _ | refine Below.allocs ?_ | refine Below.next ?_ (by assumption) | refine Below.setCell ?_ (by dsimp only; omega) _))).mono ?_; rintro e w3 ⟨rfl, hb3⟩; have HA3 := Lib.hide ((Box2.new w2 (.slice none 0 0) (.int .i64 0) 24).next hb3); obtain ⟨t0, t1, t2, t3, t4⟩ := HA3.out; have HK3 := Lib.hide ((HK2.out.alloc _).next hb3); have HH3 := Lib.hide ((HH2.out.alloc _).next hb3))
      | (go_at_call 17; with_reducible refine (sameHeap_same none none 0 0 0 [] 0 _ (Ints.nil _ _) (Ints.nil _ _) List.length_nil (by omega)).mono ?_; rintro e w4 ⟨rfl, hb4⟩; obtain ⟨u0, u1, u2, u3, u4⟩ := (HK3.out.alloc _).next hb4; obtain ⟨v0, v1, v2, v3, v4⟩ := (HH3.out.alloc _).next hb4)
      | (go_at_call 17; with_reducible refine (sameHeap_same a1 a n c1 cap xs top _ (HO1.out.reads.2.below (by repeat (first | exact Below.refl _ _ | assumption | refine Below.drew ?_ | refine below_drewN ?_ _ | refine Below.allocs ?_ | refine Below.next ?_ (by assumption) | refine Below.setCell ?_ (by dsimp only; omega) _))) (H.out.ints.below (by repeat (first | exact Below.refl _ _ | assumption | refine Below.drew ?_ | refine below_drewN ?_ _ | refine Below.allocs ?_ | refine Below.next ?_ (by assumption) | refine Below.setCell ?_ (by dsimp only; omega) _))) HN.out hn8).mono ?_; rintro e w5 ⟨rfl, hb5⟩))
    go_ret
    exact ⟨rfl, (by repeat (first | exact Below.refl _ _ | assumption | refine Below.drew ?_ | refine below_drewN ?_ _ | refine Below.allocs ?_ | refine Below.next ?_ (by assumption) | refine Below.setCell ?_ (by dsimp only; omega) _))⟩
end Go.Proofs.Ytpdcaoagpjcgbaa
