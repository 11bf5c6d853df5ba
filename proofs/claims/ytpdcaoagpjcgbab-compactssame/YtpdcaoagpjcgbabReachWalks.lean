/-
  The walks of gc.Reach. It proves no statement by itself.
-/
import Derived.Test.YtpdcaoagpjcgbabDeleteWalks
set_option linter.unusedVariables false
set_option linter.unusedSimpArgs false
namespace Go.Proofs.Ytpdcaoagpjcgbab
open Go.RowKit

set_option maxHeartbeats 400000 in
open Lw in
theorem reach_bad (a : Option Addr) (n cap : Nat) (xs : List Int) (top : Int) (a2 : Option Addr) (k cap2 : Nat) (w : World) (hh : IsHeap w a n cap xs top) (hv : ∀ l, ¬ Valid xs top l) :
    Calls Try.prog 24 #[.agg #[.slice a n cap, .int .i64 top], .slice a2 k cap2] w fun e w' => e = .returned (.tuple #[.slice none 0 0, .int .i64 5]) ∧ Below w.heap.size w w' := by
  have H := Lib.hide hh
  have HV := Lib.hide hv
  clear hh hv
  go_enter Try.func24, Try.ntmps24
  go_wp2_with (go_at_call 16; refine (places_no a n cap xs top _ (H.out.below (by repeat (first | exact Below.refl _ _ | assumption | refine Below.drew ?_ | refine below_drewN ?_ _ | refine Below.allocs ?_ | refine Below.next ?_ (by assumption) | refine Below.setCell ?_ (by dsimp only; omega) _))) HV.out).mono ?_; rintro e w1 ⟨rfl, hb1⟩)
  go_ret2
  exact ⟨rfl, (by repeat (first | exact Below.refl _ _ | assumption | refine Below.drew ?_ | refine below_drewN ?_ _ | refine Below.allocs ?_ | refine Below.next ?_ (by assumption) | refine Below.setCell ?_ (by dsimp only; omega) _))⟩

set_option maxHeartbeats 800000 in
open Lw in
theorem reach_none (a : Option Addr) (n cap : Nat) (xs : List Int) (top : Int) (l : List Nat) (a2 : Option Addr) (k cap2 : Nat) (rs : List Int) (w : World) (hh : IsHeap w a n cap xs top) (hv : Valid xs top l) (hi2 : Ints w a2 rs) (hk : rs.length = k) (hkm : k * 8 ≤ 140737488351232)
    (hro : ¬ RootsOk (nums l) rs) : Calls Try.prog 24 #[.agg #[.slice a n cap, .int .i64 top], .slice a2 k cap2] w fun e w' => e = .returned (.tuple #[.slice none 0 0, .int .i64 4]) ∧ Below w.heap.size w w' := by
  have hl := Objects.laid hv.objects
  have hl4 : l.length ≤ 400 := by
    have := hl.short
    have := hv.top1
    have := hv.top2
    have := hv.len2
    omega
  have H := Lib.hide hh
  have HV := Lib.hide hv
  have HL := Lib.hide hl
  have HI2 := Lib.hide hi2
  have HK := Lib.hide hk
  have HRO := Lib.hide hro
  clear hh hv hl hi2 hk hro
  go_enter Try.func24, Try.ntmps24
  go_wp2_with (first
    | (go_at_call 16; refine (places_yes a n cap xs top l _ (H.out.below (by repeat (first | exact Below.refl _ _ | assumption | refine Below.drew ?_ | refine below_drewN ?_ _ | refine Below.allocs ?_ | refine Below.next ?_ (by assumption) | refine Below.setCell ?_ (by dsimp only; omega) _))) HV.out).mono ?_; rintro e w1 ⟨a1, c1, rfl, ho1, hb1⟩; have HO1 := Lib.hide ho1; clear ho1; have HT := Lib.hide ((Box2.new w (.slice a n cap) (.int .i64 top) 27).next hb1); obtain ⟨q0, q1, q2, q3, q4⟩ := HT.out)
    | (go_at_call 56; refine (areRoots_any a1 l.length c1 (nums l) a2 k cap2 rs _ HO1.out.reads.2 (nums_length l) hl4 (nums_sorted HL.out.sorted) (HI2.out.below (by repeat (first | exact Below.refl _ _ | assumption | refine Below.drew ?_ | refine below_drewN ?_ _ | refine Below.allocs ?_ | refine Below.next ?_ (by assumption) | refine Below.setCell ?_ (by dsimp only; omega) _))) HK.out hkm false (by simp [HRO.out])).mono ?_; rintro e w2 ⟨rfl, rfl⟩))
  go_ret2
  exact ⟨rfl, (by repeat (first | exact Below.refl _ _ | assumption | refine Below.drew ?_ | refine below_drewN ?_ _ | refine Below.allocs ?_ | refine Below.next ?_ (by assumption) | refine Below.setCell ?_ (by dsimp only; omega) _))⟩

/-- The list of the reachable objects, in new memory. -/
def ReachYes (w : World) (xs rs : List Int) (l : List Nat) (e : Ending) (w' : World) : Prop :=
  ∃ (zs : List Int) (a : Option Addr) (c : Nat), ReachOf xs l rs zs ∧ e = .returned (.tuple #[.slice a zs.length c, .int .i64 0]) ∧ Own w' w.heap.size (.slice a zs.length c) zs ∧ Below w.heap.size w w'

theorem nums_fits {xs : List Int} {t : Nat} {l : List Nat} (hl : Laid xs t l) (ht : t ≤ 400) : ∀ x ∈ nums l, Fits x := by
  intro x hx
  obtain ⟨q, rfl, hq⟩ := place_bounds hx hl
  exact fits_small (by omega) (by omega)

set_option maxHeartbeats 1600000 in
open Lw in
theorem reach_yes (a : Option Addr) (n cap : Nat) (xs : List Int) (top : Int) (l : List Nat) (a2 : Option Addr) (k cap2 : Nat) (rs : List Int) (w : World) (hh : IsHeap w a n cap xs top) (hv : Valid xs top l) (hi2 : Ints w a2 rs) (hk : rs.length = k) (hkm : k * 8 ≤ 140737488351232)
    (hro : RootsOk (nums l) rs) : Calls Try.prog 24 #[.agg #[.slice a n cap, .int .i64 top], .slice a2 k cap2] w (ReachYes w xs rs l) := by
  have hmf : ∀ (fn : Fn) (first cap : Array Value) (w : World), (Instr.makeFunc fn first cap).run Try.prog w = .ok (.func fn first cap) w := fun _ _ _ _ => rfl
  have hl := Objects.laid hv.objects
  have ht4 : top.toNat ≤ 400 := by
    have := hv.top1
    have := hv.top2
    have := hv.len2
    omega
  have hl4 : l.length ≤ 400 := by
    have := hl.short
    omega
  have H := Lib.hide hh
  have HV := Lib.hide hv
  have HL := Lib.hide hl
  have HI2 := Lib.hide hi2
  have HK := Lib.hide hk
  have HRO := Lib.hide hro
  clear hh hv hl hi2 hk hro
  go_enter Try.func24, Try.ntmps24
  go_wp2_with (first
    | (go_at_call 16; refine (places_yes a n cap xs top l _ (H.out.below (by repeat (first | exact Below.refl _ _ | assumption | refine Below.drew ?_ | refine below_drewN ?_ _ | refine Below.allocs ?_ | refine Below.next ?_ (by assumption) | refine Below.setCell ?_ (by dsimp only; omega) _))) HV.out).mono ?_; rintro e w1 ⟨a1, c1, rfl, ho1, hb1⟩; have HO1 := Lib.hide ho1; clear ho1; have HT := Lib.hide ((Box2.new w (.slice a n cap) (.int .i64 top) 27).next hb1); obtain ⟨q0, q1, q2, q3, q4⟩ := HT.out)
    | (go_at_call 56; refine (areRoots_any a1 l.length c1 (nums l) a2 k cap2 rs _ HO1.out.reads.2 (nums_length l) hl4 (nums_sorted HL.out.sorted) (HI2.out.below (by repeat (first | exact Below.refl _ _ | assumption | refine Below.drew ?_ | refine below_drewN ?_ _ | refine Below.allocs ?_ | refine Below.next ?_ (by assumption) | refine Below.setCell ?_ (by dsimp only; omega) _))) HK.out hkm true (by simp [HRO.out])).mono ?_; rintro e w2 ⟨rfl, rfl⟩)
    | (go_at_call 57; refine (mark_any a n cap xs top l a2 k cap2 rs _ (H.out.below (by repeat (first | exact Below.refl _ _ | assumption | refine Below.drew ?_ | refine below_drewN ?_ _ | refine Below.allocs ?_ | refine Below.next ?_ (by assumption) | refine Below.setCell ?_ (by dsimp only; omega) _))) HV.out (HI2.out.below (by repeat (first | exact Below.refl _ _ | assumption | refine Below.drew ?_ | refine below_drewN ?_ _ | refine Below.allocs ?_ | refine Below.next ?_ (by assumption) | refine Below.setCell ?_ (by dsimp only; omega) _))) HK.out hkm HRO.out).mono ?_; rintro e w3 ⟨mb, n3, m, rfl, hmb, hmap, hm, hb3⟩; have HMAP := Lib.hide hmap; have HM := Lib.hide hm; have HMB := Lib.hide hmb; have HB3 := Lib.hide hb3; clear hmap hm hmb)
    | fail)
  refine (deleteFunc_any a1 l.length c1 (nums l) w3.heap.size mb n3 (w.heap.size + 1) m _ ?_ hl4 (nums_fits HL.out ht4) ⟨?_, ?_⟩ ?_).mono ?_
  · have := (HO1.out.below HB3.out).allocs (.cells #[.map (some mb)] 95)
    rw [show (w.alloc (.cells #[.slice a n cap, .int .i64 top] 27)).heap.size = w.heap.size + 1 by simp] at this
    exact this
  · exact heap_alloc_new w3 _
  · exact HMAP.out.kept (Below.heap_alloc _ _ _ HMAP.out.lt)
  · have := HB3.out.size
    have := hb1.size
    simp at this ⊢
    omega
  rintro e w4 ⟨a4, c4, rfl, ho4, hb4⟩
  have HO4 := Lib.hide ho4
  have hbw : Below w.heap.size w w4 := Below.trans (b := w3.alloc (.cells #[.map (some mb)] 95)) (by repeat (first | exact Below.refl _ _ | assumption | refine Below.drew ?_ | refine below_drewN ?_ _ | refine Below.allocs ?_ | refine Below.next ?_ (by assumption) | refine Below.setCell ?_ (by dsimp only; omega) _)) (hb4.mono (by omega))
  have HBW := Lib.hide hbw
  clear ho4 hb4 hbw
  go_wp2
  go_ret2
  exact ⟨(nums l).filter m, a4, c4, ⟨m, rfl, fun q _ => HM.out q⟩, rfl, ownsRow_base HO4.out (by omega), HBW.out⟩
end Go.Proofs.Ytpdcaoagpjcgbab
