/-
  The walk of the law on gc.Reach. It proves no statement by itself.
-/
import Derived.Test.YtpdcaoagpjcgbaaReachRef
import Derived.Test.YtpdcaoagpjcgbaaCheckLaws
import Derived.Test.YtpdcaoagpjcgbaaArgInts
namespace Go.Proofs.Ytpdcaoagpjcgbaa
open Go.ChangeShapes Go.WideShapes Go.ChangeAt Go.RowKit Go.Joins

set_option maxHeartbeats 800000 in
open Lw in
theorem gcReaches.walk (a : Option Addr) (cap : Nat) (xs : List Int) (top : Int) (hc : xs.length ≤ cap) (hr : cap * 8 ≤ 140737488351232) (hf : ∀ n ∈ xs, Fits n) (ht : Fits top) (_ : a = none → cap = 0)
    (a2 : Option Addr) (cap2 : Nat) (rs : List Int) (hc2 : rs.length ≤ cap2) (hr2 : cap2 * 8 ≤ 140737488351232) (_ : ∀ n ∈ rs, Fits n) (hn2 : a2 = none → cap2 = 0) (w : World) (hi : Ints w a xs) (hi2 : Ints w a2 rs) :
    Calls Try.prog 12 #[.agg #[.slice a xs.length cap, .int .i64 top], .slice a2 rs.length cap2] w fun e w' => e = .returned (.bool true) ∧ Below w.heap.size w w' := by
  have H := Lib.hide (isHeap_of hc hr hf ht hi)
  obtain ⟨k, hk⟩ : ∃ k, rs.length = k := ⟨_, rfl⟩
  rw [hk] at hc2 ⊢
  have HK := Lib.hide hk
  have HI2 := Lib.hide hi2
  have HN2 := Lib.hide hn2
  have hkm : k * 8 ≤ 140737488351232 := by omega
  clear hc hr hf ht hi hk hi2 hn2
  generalize xs.length = n at *
  by_cases hv : ∃ l, Valid xs top l
  · obtain ⟨l, hv⟩ := hv
    have HV := Lib.hide hv
    have hl4 : l.length ≤ 400 := by
      have := (Objects.laid hv.objects).short
      have := hv.top1
      have := hv.top2
      have := hv.len2
      omega
    clear hv
    by_cases hro : RootsOk (nums l) rs
    · have HRO := Lib.hide hro
      clear hro
      go_enter Try.func12, Try.ntmps12
      go_wp2_with (first
        | (go_at_call 33; refine (reach_yes a n cap xs top l a2 k cap2 rs _ (H.out.below (by repeat (first | exact Below.refl _ _ | assumption | refine Below.drew ?_ | refine below_drewN ?_ _ | refine Below.allocs ?_ | refine Below.next ?_ (by assumption) | refine Below.setCell ?_ (by dsimp only; omega) _))) HV.out (HI2.out.below (by repeat (first | exact Below.refl _ _ | assumption | refine Below.drew ?_ | refine below_drewN ?_ _ | refine Below.allocs ?_ | refine Below.next ?_ (by assumption) | refine Below.setCell ?_ (by dsimp only; omega) _))) HK.out hkm HRO.out).mono ?_; rintro e w1 ⟨zs, a1, c1, hz, rfl, ho1, hb1⟩; have HZ := Lib.hide hz; have HO1 := Lib.hide ho1; have hzl := hz.length; clear hz ho1; obtain ⟨q0, q1, q2, q3, q4⟩ := (Box2.new w (.slice a n cap) (.int .i64 top) 24).next hb1)
        | (go_at_call 34; refine (reachedOf_yes a n cap xs top l a2 k cap2 rs _ (H.out.below (by repeat (first | exact Below.refl _ _ | assumption | refine Below.drew ?_ | refine below_drewN ?_ _ | refine Below.allocs ?_ | refine Below.next ?_ (by assumption) | refine Below.setCell ?_ (by dsimp only; omega) _))) HV.out (HI2.out.below (by repeat (first | exact Below.refl _ _ | assumption | refine Below.drew ?_ | refine below_drewN ?_ _ | refine Below.allocs ?_ | refine Below.next ?_ (by assumption) | refine Below.setCell ?_ (by dsimp only; omega) _))) HK.out hkm hc2 HN2.out HRO.out).mono ?_; rintro e w2 ⟨zs2, a3, c3, hz2, rfl, ho2, hb2⟩; obtain rfl := hz2.unique HZ.out; have HO2 := Lib.hide ho2; clear hz2 ho2)
        | (go_at_call 23; refine (sameInts_same a1 a3 _ c1 c3 _ _ (HO1.out.reads.2.below (by repeat (first | exact Below.refl _ _ | assumption | refine Below.drew ?_ | refine below_drewN ?_ _ | refine Below.allocs ?_ | refine Below.next ?_ (by assumption) | refine Below.setCell ?_ (by dsimp only; omega) _))) (HO2.out.reads.2.below (by repeat (first | exact Below.refl _ _ | assumption | refine Below.drew ?_ | refine below_drewN ?_ _ | refine Below.allocs ?_ | refine Below.next ?_ (by assumption) | refine Below.setCell ?_ (by dsimp only; omega) _))) rfl (by omega)).mono ?_; rintro e w3 ⟨rfl, hb3⟩))
      go_ret
      exact ⟨rfl, (by repeat (first | exact Below.refl _ _ | assumption | refine Below.drew ?_ | refine below_drewN ?_ _ | refine Below.allocs ?_ | refine Below.next ?_ (by assumption) | refine Below.setCell ?_ (by dsimp only; omega) _))⟩
    · have HRO := Lib.hide hro
      clear hro
      go_enter Try.func12, Try.ntmps12
      go_wp2_with (first
        | (go_at_call 33; refine (reach_none a n cap xs top l a2 k cap2 rs _ (H.out.below (by repeat (first | exact Below.refl _ _ | assumption | refine Below.drew ?_ | refine below_drewN ?_ _ | refine Below.allocs ?_ | refine Below.next ?_ (by assumption) | refine Below.setCell ?_ (by dsimp only; omega) _))) HV.out (HI2.out.below (by repeat (first | exact Below.refl _ _ | assumption | refine Below.drew ?_ | refine below_drewN ?_ _ | refine Below.allocs ?_ | refine Below.next ?_ (by assumption) | refine Below.setCell ?_ (by dsimp only; omega) _))) HK.out hkm HRO.out).mono ?_; rintro e w1 ⟨rfl, hb1⟩; obtain ⟨q0, q1, q2, q3, q4⟩ := (Box2.new w (.slice a n cap) (.int .i64 top) 24).next hb1)
        | (go_at_call 34; refine (reachedOf_none a n cap xs top l a2 k cap2 rs _ (H.out.below (by repeat (first | exact Below.refl _ _ | assumption | refine Below.drew ?_ | refine below_drewN ?_ _ | refine Below.allocs ?_ | refine Below.next ?_ (by assumption) | refine Below.setCell ?_ (by dsimp only; omega) _))) HV.out (HI2.out.below (by repeat (first | exact Below.refl _ _ | assumption | refine Below.drew ?_ | refine below_drewN ?_ _ | refine Below.allocs ?_ | refine Below.next ?_ (by assumption) | refine Below.setCell ?_ (by dsimp only; omega) _))) HK.out hkm HRO.out).mono ?_; rintro e w2 ⟨rfl, hb2⟩)
        | (go_at_call 23; refine (sameInts_same none none 0 0 0 [] _ (Ints.nil _ _) (Ints.nil _ _) rfl (by omega)).mono ?_; rintro e w3 ⟨rfl, hb3⟩))
      go_ret
      exact ⟨rfl, (by repeat (first | exact Below.refl _ _ | assumption | refine Below.drew ?_ | refine below_drewN ?_ _ | refine Below.allocs ?_ | refine Below.next ?_ (by assumption) | refine Below.setCell ?_ (by dsimp only; omega) _))⟩
  · have HV := Lib.hide (not_exists.1 hv)
    clear hv
    go_enter Try.func12, Try.ntmps12
    go_wp2_with (first
      | (go_at_call 33; refine (reach_bad a n cap xs top a2 k cap2 _ (H.out.below (by repeat (first | exact Below.refl _ _ | assumption | refine Below.drew ?_ | refine below_drewN ?_ _ | refine Below.allocs ?_ | refine Below.next ?_ (by assumption) | refine Below.setCell ?_ (by dsimp only; omega) _))) HV.out).mono ?_; rintro e w1 ⟨rfl, hb1⟩; obtain ⟨q0, q1, q2, q3, q4⟩ := (Box2.new w (.slice a n cap) (.int .i64 top) 24).next hb1)
      | (go_at_call 34; refine (reachedOf_bad a n cap xs top a2 k cap2 _ (H.out.below (by repeat (first | exact Below.refl _ _ | assumption | refine Below.drew ?_ | refine below_drewN ?_ _ | refine Below.allocs ?_ | refine Below.next ?_ (by assumption) | refine Below.setCell ?_ (by dsimp only; omega) _))) HV.out).mono ?_; rintro e w2 ⟨rfl, hb2⟩)
      | (go_at_call 23; refine (sameInts_same none none 0 0 0 [] _ (Ints.nil _ _) (Ints.nil _ _) rfl (by omega)).mono ?_; rintro e w3 ⟨rfl, hb3⟩))
    go_ret
    exact ⟨rfl, (by repeat (first | exact Below.refl _ _ | assumption | refine Below.drew ?_ | refine below_drewN ?_ _ | refine Below.allocs ?_ | refine Below.next ?_ (by assumption) | refine Below.setCell ?_ (by dsimp only; omega) _))⟩
end Go.Proofs.Ytpdcaoagpjcgbaa
