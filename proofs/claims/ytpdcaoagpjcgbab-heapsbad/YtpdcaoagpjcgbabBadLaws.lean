/-
  The walk of the law that invalid heaps are rejected. It proves no statement by itself.
-/
import Derived.Test.YtpdcaoagpjcgbabMadeWalks
import Derived.Test.YtpdcaoagpjcgbabReachWalks
set_option linter.unusedVariables false
set_option linter.unusedSimpArgs false
namespace Go.Proofs.Ytpdcaoagpjcgbab
open Go.RowKit

set_option maxHeartbeats 4000000 in
set_option maxRecDepth 100000 in
open Lw in
theorem heapsBad.walk (a0 : Option Addr) (n0 cap0 : Nat) (R : Nat → Nat → Int) (hc0 : n0 ≤ cap0) (hm0 : cap0 ≤ maxLen) (x : Int) (Fx : Fits x) (y : Int) (Fy : Fits y) (w : World) (hR : Recs w a0 n0 4 R) :
    Calls Try.prog 5 #[.slice a0 n0 cap0, .int .i64 x, .int .i64 y] w fun e w' => e = .returned (.bool true) ∧ Below w.heap.size w w' := by
  unfold maxLen at hm0
  have CM := Lib.hide (fun w' (h : Below w.heap.size w w') => made_any a0 n0 cap0 300 R w' (hR.below h) (by omega) (by omega) (by omega))
  obtain ⟨k0, hk0⟩ := Int.eq_ofNat_of_zero_le (pick_lt y 50 (by omega)).1
  have hk1 := (pick_lt y 50 (by omega)).2
  obtain ⟨c6, hc6⟩ := Int.eq_ofNat_of_zero_le (pick_lt x 6 (by omega)).1
  have hc7 := (pick_lt x 6 (by omega)).2
  have C50 := Lib.hide (fun w => picked_any y 50 w Fy (by omega) (by omega))
  have C6 := Lib.hide (fun w => picked_any x 6 w Fx (by omega) (by omega))
  rw [hk0] at C50 hk1
  rw [hc6] at C6 hc7
  clear hR Fx Fy hk0 hc6
  go_enter Try.func5, Try.ntmps5
  go_wp2_with fail
  refine (CM.out _ (by repeat (first | exact Below.refl _ _ | assumption | refine Below.drew ?_ | refine below_drewN ?_ _ | refine Below.allocs ?_ | refine Below.next ?_ (by assumption) | refine Below.setCell ?_ (by dsimp only; omega) _))).mono ?_
  rintro e w1 ⟨a1, c1, t, xs, l, rfl, ho1, hv, hfit, hb1, ht241⟩
  have hxl := ho1.reads.1
  have HHP := Lib.hide (ho1.isHeap (top := t) hfit (fits_small (by omega) (by omega)))
  have HO1 := Lib.hide ho1
  have HXL := Lib.hide hxl
  have HFI := Lib.hide hfit
  have HV := Lib.hide hv
  obtain ⟨g1, he1, hg11, hg12, hgc1, hgf1⟩ := ho1.row (by omega)
  subst he1
  have e299 := hgc1 299 (by omega)
  have f299 := hgf1 299
  clear ho1 hv hfit hxl hgc1 hgf1
  obtain rfl | rfl | rfl | rfl | rfl | rfl : c6 = 0 ∨ c6 = 1 ∨ c6 = 2 ∨ c6 = 3 ∨ c6 = 4 ∨ c6 = 5 := by omega
  · go_wp2_with (first
      | (go_at_call 17; (with_reducible refine (C50.out _).mono ?_); rintro e w' ⟨rfl, rfl⟩)
      | (go_at_call 17; (with_reducible refine (C6.out _).mono ?_); rintro e w' ⟨rfl, rfl⟩))
    have hIS : IsHeap (w1.alloc (.cells #[.slice (some ⟨g1, 0, none⟩) 300 c1, .int .i64 (300 + (1 + (k0 : Int)))] 27)) (some ⟨g1, 0, none⟩) 300 c1 xs (300 + (1 + (k0 : Int))) := ({ HHP.out with top := fits_small (by omega) (by omega) } : IsHeap w1 (some ⟨g1, 0, none⟩) 300 c1 xs (300 + (1 + (k0 : Int)))).below (by repeat (first | exact Below.refl _ _ | assumption | refine Below.drew ?_ | refine below_drewN ?_ _ | refine Below.allocs ?_ | refine Below.next ?_ (by assumption) | refine Below.setCell ?_ (by dsimp only; omega) _))
    have hNV : ∀ l, ¬ Valid xs (300 + (1 + (k0 : Int))) l := fun l h => by have := h.top2; rw [HXL.out] at this; omega
    have hBX : Box2 (w1.alloc (.cells #[.slice (some ⟨g1, 0, none⟩) 300 c1, .int .i64 (300 + (1 + (k0 : Int)))] 27)) w1.heap.size (.slice (some ⟨g1, 0, none⟩) 300 c1) (.int .i64 (300 + (1 + (k0 : Int)))) := Box2.new w1 _ _ _
    have hBW : Below w.heap.size w (w1.alloc (.cells #[.slice (some ⟨g1, 0, none⟩) 300 c1, .int .i64 (300 + (1 + (k0 : Int)))] 27)) := (by repeat (first | exact Below.refl _ _ | assumption | refine Below.drew ?_ | refine below_drewN ?_ _ | refine Below.allocs ?_ | refine Below.next ?_ (by assumption) | refine Below.setCell ?_ (by dsimp only; omega) _))
    have HIS := Lib.hide hIS
    have HNV := Lib.hide hNV
    have HBX := Lib.hide hBX
    have HBW := Lib.hide hBW
    clear hIS hNV hBX hBW e299 f299
    generalize w1.alloc (.cells #[.slice (some ⟨g1, 0, none⟩) 300 c1, .int .i64 (300 + (1 + (k0 : Int)))] 27) = W at HIS HBX HBW ⊢
    refine (places_no (some ⟨g1, 0, none⟩) 300 c1 xs (300 + (1 + (k0 : Int))) _ HIS.out HNV.out).mono ?_
    rintro e w2 ⟨rfl, hb2⟩
    have HB2 := Lib.hide (HBX.out.next hb2)
    obtain ⟨r0, r1, r2, r3, r4⟩ := HB2.out
    go_wp2_with (first
      | (go_at_call 23; refine (alloc_no (some ⟨g1, 0, none⟩) 300 c1 xs (300 + (1 + (k0 : Int))) 0 _ (HIS.out.below (by repeat (first | exact Below.refl _ _ | assumption | refine Below.drew ?_ | refine below_drewN ?_ _ | refine Below.allocs ?_ | refine Below.next ?_ (by assumption) | refine Below.setCell ?_ (by dsimp only; omega) _))) HNV.out).mono ?_; rintro e w3 ⟨rfl, hb3⟩; have HB3 := Lib.hide (HB2.out.next hb3); obtain ⟨s0, s1, s2, s3, s4⟩ := HB3.out)
      | (go_at_call 24; refine (reach_bad (some ⟨g1, 0, none⟩) 300 c1 xs (300 + (1 + (k0 : Int))) none 0 0 _ (HIS.out.below (by repeat (first | exact Below.refl _ _ | assumption | refine Below.drew ?_ | refine below_drewN ?_ _ | refine Below.allocs ?_ | refine Below.next ?_ (by assumption) | refine Below.setCell ?_ (by dsimp only; omega) _))) HNV.out).mono ?_; rintro e w4 ⟨rfl, hb4⟩; obtain ⟨t0, t1, t2, t3, t4⟩ := (HB3.out.alloc _).next hb4)
      | (go_at_call 21; refine (check_no (some ⟨g1, 0, none⟩) 300 c1 xs (300 + (1 + (k0 : Int))) _ (HIS.out.below (by repeat (first | exact Below.refl _ _ | assumption | refine Below.drew ?_ | refine below_drewN ?_ _ | refine Below.allocs ?_ | refine Below.next ?_ (by assumption) | refine Below.setCell ?_ (by dsimp only; omega) _))) HNV.out).mono ?_; rintro e w5 ⟨rfl, hb5⟩))
    go_ret
    have hbw := HBW.out
    exact ⟨rfl, (by repeat (first | exact Below.refl _ _ | assumption | refine Below.drew ?_ | refine below_drewN ?_ _ | refine Below.allocs ?_ | refine Below.next ?_ (by assumption) | refine Below.setCell ?_ (by dsimp only; omega) _))⟩
  · go_wp2_with (first
      | (go_at_call 17; (with_reducible refine (C50.out _).mono ?_); rintro e w' ⟨rfl, rfl⟩)
      | (go_at_call 17; (with_reducible refine (C6.out _).mono ?_); rintro e w' ⟨rfl, rfl⟩))
    have hIS : IsHeap (w1.alloc (.cells #[.slice (some ⟨g1, 0, none⟩) 300 c1, .int .i64 (1 - (1 + (k0 : Int)))] 27)) (some ⟨g1, 0, none⟩) 300 c1 xs (1 - (1 + (k0 : Int))) := ({ HHP.out with top := fits_small (by omega) (by omega) } : IsHeap w1 (some ⟨g1, 0, none⟩) 300 c1 xs (1 - (1 + (k0 : Int)))).below (by repeat (first | exact Below.refl _ _ | assumption | refine Below.drew ?_ | refine below_drewN ?_ _ | refine Below.allocs ?_ | refine Below.next ?_ (by assumption) | refine Below.setCell ?_ (by dsimp only; omega) _))
    have hNV : ∀ l, ¬ Valid xs (1 - (1 + (k0 : Int))) l := fun l h => by have := h.top1; omega
    have hBX : Box2 (w1.alloc (.cells #[.slice (some ⟨g1, 0, none⟩) 300 c1, .int .i64 (1 - (1 + (k0 : Int)))] 27)) w1.heap.size (.slice (some ⟨g1, 0, none⟩) 300 c1) (.int .i64 (1 - (1 + (k0 : Int)))) := Box2.new w1 _ _ _
    have hBW : Below w.heap.size w (w1.alloc (.cells #[.slice (some ⟨g1, 0, none⟩) 300 c1, .int .i64 (1 - (1 + (k0 : Int)))] 27)) := (by repeat (first | exact Below.refl _ _ | assumption | refine Below.drew ?_ | refine below_drewN ?_ _ | refine Below.allocs ?_ | refine Below.next ?_ (by assumption) | refine Below.setCell ?_ (by dsimp only; omega) _))
    have HIS := Lib.hide hIS
    have HNV := Lib.hide hNV
    have HBX := Lib.hide hBX
    have HBW := Lib.hide hBW
    clear hIS hNV hBX hBW e299 f299
    generalize w1.alloc (.cells #[.slice (some ⟨g1, 0, none⟩) 300 c1, .int .i64 (1 - (1 + (k0 : Int)))] 27) = W at HIS HBX HBW ⊢
    refine (places_no (some ⟨g1, 0, none⟩) 300 c1 xs (1 - (1 + (k0 : Int))) _ HIS.out HNV.out).mono ?_
    rintro e w2 ⟨rfl, hb2⟩
    have HB2 := Lib.hide (HBX.out.next hb2)
    obtain ⟨r0, r1, r2, r3, r4⟩ := HB2.out
    go_wp2_with (first
      | (go_at_call 23; refine (alloc_no (some ⟨g1, 0, none⟩) 300 c1 xs (1 - (1 + (k0 : Int))) 0 _ (HIS.out.below (by repeat (first | exact Below.refl _ _ | assumption | refine Below.drew ?_ | refine below_drewN ?_ _ | refine Below.allocs ?_ | refine Below.next ?_ (by assumption) | refine Below.setCell ?_ (by dsimp only; omega) _))) HNV.out).mono ?_; rintro e w3 ⟨rfl, hb3⟩; have HB3 := Lib.hide (HB2.out.next hb3); obtain ⟨s0, s1, s2, s3, s4⟩ := HB3.out)
      | (go_at_call 24; refine (reach_bad (some ⟨g1, 0, none⟩) 300 c1 xs (1 - (1 + (k0 : Int))) none 0 0 _ (HIS.out.below (by repeat (first | exact Below.refl _ _ | assumption | refine Below.drew ?_ | refine below_drewN ?_ _ | refine Below.allocs ?_ | refine Below.next ?_ (by assumption) | refine Below.setCell ?_ (by dsimp only; omega) _))) HNV.out).mono ?_; rintro e w4 ⟨rfl, hb4⟩; obtain ⟨t0, t1, t2, t3, t4⟩ := (HB3.out.alloc _).next hb4)
      | (go_at_call 21; refine (check_no (some ⟨g1, 0, none⟩) 300 c1 xs (1 - (1 + (k0 : Int))) _ (HIS.out.below (by repeat (first | exact Below.refl _ _ | assumption | refine Below.drew ?_ | refine below_drewN ?_ _ | refine Below.allocs ?_ | refine Below.next ?_ (by assumption) | refine Below.setCell ?_ (by dsimp only; omega) _))) HNV.out).mono ?_; rintro e w5 ⟨rfl, hb5⟩))
    go_ret
    have hbw := HBW.out
    exact ⟨rfl, (by repeat (first | exact Below.refl _ _ | assumption | refine Below.drew ?_ | refine below_drewN ?_ _ | refine Below.allocs ?_ | refine Below.next ?_ (by assumption) | refine Below.setCell ?_ (by dsimp only; omega) _))⟩
  · go_wp2_with (first
      | (go_at_call 17; (with_reducible refine (C50.out _).mono ?_); rintro e w' ⟨rfl, rfl⟩)
      | (go_at_call 17; (with_reducible refine (C6.out _).mono ?_); rintro e w' ⟨rfl, rfl⟩))
    have hIS : IsHeap ((w1.setCell ⟨g1, 299, none⟩ (.int .i64 (1 + (k0 : Int)))).alloc (.cells #[.slice (some ⟨g1, 0, none⟩) 300 c1, .int .i64 t] 27)) (some ⟨g1, 0, none⟩) 300 c1 (xs.set 299 (1 + (k0 : Int))) t := ((HO1.out.stored 299 (1 + (k0 : Int))).allocs _).isHeap (fits_set HFI.out (fits_small (by omega) (by omega))) (fits_small (by omega) (by omega))
    have hNV : ∀ l, ¬ Valid (xs.set 299 (1 + (k0 : Int))) t l := fun l h => by
      have h2 := h.rest 299 (by rw [Int.toNat_natCast]; omega) (by rw [List.length_set, HXL.out]; omega)
      rw [Lw.getD_set_eq (by rw [HXL.out]; omega)] at h2
      omega
    have hBX : Box2 ((w1.setCell ⟨g1, 299, none⟩ (.int .i64 (1 + (k0 : Int)))).alloc (.cells #[.slice (some ⟨g1, 0, none⟩) 300 c1, .int .i64 t] 27)) w1.heap.size (.slice (some ⟨g1, 0, none⟩) 300 c1) (.int .i64 t) := by
      have := Box2.new (w1.setCell ⟨g1, 299, none⟩ (.int .i64 (1 + (k0 : Int)))) (.slice (some ⟨g1, 0, none⟩) 300 c1) (.int .i64 t) 27
      rwa [show (w1.setCell ⟨g1, 299, none⟩ (.int .i64 (1 + (k0 : Int)))).heap.size = w1.heap.size by simp [World.setCell]] at this
    have hBW : Below w.heap.size w ((w1.setCell ⟨g1, 299, none⟩ (.int .i64 (1 + (k0 : Int)))).alloc (.cells #[.slice (some ⟨g1, 0, none⟩) 300 c1, .int .i64 t] 27)) := (by repeat (first | exact Below.refl _ _ | assumption | refine Below.drew ?_ | refine below_drewN ?_ _ | refine Below.allocs ?_ | refine Below.next ?_ (by assumption) | refine Below.setCell ?_ (by dsimp only; omega) _))
    have HIS := Lib.hide hIS
    have HNV := Lib.hide hNV
    have HBX := Lib.hide hBX
    have HBW := Lib.hide hBW
    clear hIS hNV hBX hBW e299 f299
    generalize (w1.setCell ⟨g1, 299, none⟩ (.int .i64 (1 + (k0 : Int)))).alloc (.cells #[.slice (some ⟨g1, 0, none⟩) 300 c1, .int .i64 t] 27) = W at HIS HBX HBW ⊢
    refine (places_no (some ⟨g1, 0, none⟩) 300 c1 (xs.set 299 (1 + (k0 : Int))) t _ HIS.out HNV.out).mono ?_
    rintro e w2 ⟨rfl, hb2⟩
    have HB2 := Lib.hide (HBX.out.next hb2)
    obtain ⟨r0, r1, r2, r3, r4⟩ := HB2.out
    go_wp2_with (first
      | (go_at_call 23; refine (alloc_no (some ⟨g1, 0, none⟩) 300 c1 (xs.set 299 (1 + (k0 : Int))) t 0 _ (HIS.out.below (by repeat (first | exact Below.refl _ _ | assumption | refine Below.drew ?_ | refine below_drewN ?_ _ | refine Below.allocs ?_ | refine Below.next ?_ (by assumption) | refine Below.setCell ?_ (by dsimp only; omega) _))) HNV.out).mono ?_; rintro e w3 ⟨rfl, hb3⟩; have HB3 := Lib.hide (HB2.out.next hb3); obtain ⟨s0, s1, s2, s3, s4⟩ := HB3.out)
      | (go_at_call 24; refine (reach_bad (some ⟨g1, 0, none⟩) 300 c1 (xs.set 299 (1 + (k0 : Int))) t none 0 0 _ (HIS.out.below (by repeat (first | exact Below.refl _ _ | assumption | refine Below.drew ?_ | refine below_drewN ?_ _ | refine Below.allocs ?_ | refine Below.next ?_ (by assumption) | refine Below.setCell ?_ (by dsimp only; omega) _))) HNV.out).mono ?_; rintro e w4 ⟨rfl, hb4⟩; obtain ⟨t0, t1, t2, t3, t4⟩ := (HB3.out.alloc _).next hb4)
      | (go_at_call 21; refine (check_no (some ⟨g1, 0, none⟩) 300 c1 (xs.set 299 (1 + (k0 : Int))) t _ (HIS.out.below (by repeat (first | exact Below.refl _ _ | assumption | refine Below.drew ?_ | refine below_drewN ?_ _ | refine Below.allocs ?_ | refine Below.next ?_ (by assumption) | refine Below.setCell ?_ (by dsimp only; omega) _))) HNV.out).mono ?_; rintro e w5 ⟨rfl, hb5⟩))
    go_ret
    have hbw := HBW.out
    exact ⟨rfl, (by repeat (first | exact Below.refl _ _ | assumption | refine Below.drew ?_ | refine below_drewN ?_ _ | refine Below.allocs ?_ | refine Below.next ?_ (by assumption) | refine Below.setCell ?_ (by dsimp only; omega) _))⟩
  · have hmk := fun W => run_make_row' (P := Try.prog) 25 3 (.int .i64 0) 8 Try.underlying25 Try.intInfo rfl .i64 .i64 (400 + (1 + k0)) (by omega) (by omega) W
    rw [show ((400 + (1 + k0) : Nat) : Int) = 400 + (1 + (k0 : Int)) by omega] at hmk
    go_wp2_with (first
      | (go_at_call 17; (with_reducible refine (C50.out _).mono ?_); rintro e w' ⟨rfl, rfl⟩)
      | (go_at_call 17; (with_reducible refine (C6.out _).mono ?_); rintro e w' ⟨rfl, rfl⟩))
    have hIS : IsHeap ((w1.alloc (.cells #[.slice (some ⟨w1.heap.size + 1, 0, none⟩) (400 + (1 + k0)) (400 + (1 + k0)), .int .i64 t] 27)).alloc (.cells (madeCells #[.int .i64 0] (400 + (1 + k0))) 3)) (some ⟨w1.heap.size + 1, 0, none⟩) (400 + (1 + k0)) (400 + (1 + k0)) (List.replicate (400 + (1 + k0)) 0) t := by
      refine Own.isHeap (base := 0) (own_made (Nat.zero_le _) (by unfold maxLen; omega) ?_) (fun z hz => by rw [List.eq_of_mem_replicate hz]; exact fits_small (by omega) (by omega)) (fits_small (by omega) (by omega))
      have := heap_alloc_new (w1.alloc (.cells #[.slice (some ⟨w1.heap.size + 1, 0, none⟩) (400 + (1 + k0)) (400 + (1 + k0)), .int .i64 t] 27)) (.cells (madeCells #[.int .i64 0] (400 + (1 + k0))) 3)
      rwa [show (w1.alloc (.cells #[.slice (some ⟨w1.heap.size + 1, 0, none⟩) (400 + (1 + k0)) (400 + (1 + k0)), .int .i64 t] 27)).heap.size = w1.heap.size + 1 by simp] at this
    have hNV : ∀ l, ¬ Valid (List.replicate (400 + (1 + k0)) 0) t l := fun l h => by have := h.len2; rw [List.length_replicate] at this; omega
    have hBX : Box2 ((w1.alloc (.cells #[.slice (some ⟨w1.heap.size + 1, 0, none⟩) (400 + (1 + k0)) (400 + (1 + k0)), .int .i64 t] 27)).alloc (.cells (madeCells #[.int .i64 0] (400 + (1 + k0))) 3)) w1.heap.size (.slice (some ⟨w1.heap.size + 1, 0, none⟩) (400 + (1 + k0)) (400 + (1 + k0))) (.int .i64 t) := (Box2.new w1 _ _ _).alloc _
    have hBW : Below w.heap.size w ((w1.alloc (.cells #[.slice (some ⟨w1.heap.size + 1, 0, none⟩) (400 + (1 + k0)) (400 + (1 + k0)), .int .i64 t] 27)).alloc (.cells (madeCells #[.int .i64 0] (400 + (1 + k0))) 3)) := (by repeat (first | exact Below.refl _ _ | assumption | refine Below.drew ?_ | refine below_drewN ?_ _ | refine Below.allocs ?_ | refine Below.next ?_ (by assumption) | refine Below.setCell ?_ (by dsimp only; omega) _))
    clear hmk
    have HIS := Lib.hide hIS
    have HNV := Lib.hide hNV
    have HBX := Lib.hide hBX
    have HBW := Lib.hide hBW
    clear hIS hNV hBX hBW e299 f299
    generalize (w1.alloc (.cells #[.slice (some ⟨w1.heap.size + 1, 0, none⟩) (400 + (1 + k0)) (400 + (1 + k0)), .int .i64 t] 27)).alloc (.cells (madeCells #[.int .i64 0] (400 + (1 + k0))) 3) = W at HIS HBX HBW ⊢
    refine (places_no (some ⟨w1.heap.size + 1, 0, none⟩) (400 + (1 + k0)) (400 + (1 + k0)) (List.replicate (400 + (1 + k0)) 0) t _ HIS.out HNV.out).mono ?_
    rintro e w2 ⟨rfl, hb2⟩
    have HB2 := Lib.hide (HBX.out.next hb2)
    obtain ⟨r0, r1, r2, r3, r4⟩ := HB2.out
    go_wp2_with (first
      | (go_at_call 23; refine (alloc_no (some ⟨w1.heap.size + 1, 0, none⟩) (400 + (1 + k0)) (400 + (1 + k0)) (List.replicate (400 + (1 + k0)) 0) t 0 _ (HIS.out.below (by repeat (first | exact Below.refl _ _ | assumption | refine Below.drew ?_ | refine below_drewN ?_ _ | refine Below.allocs ?_ | refine Below.next ?_ (by assumption) | refine Below.setCell ?_ (by dsimp only; omega) _))) HNV.out).mono ?_; rintro e w3 ⟨rfl, hb3⟩; have HB3 := Lib.hide (HB2.out.next hb3); obtain ⟨s0, s1, s2, s3, s4⟩ := HB3.out)
      | (go_at_call 24; refine (reach_bad (some ⟨w1.heap.size + 1, 0, none⟩) (400 + (1 + k0)) (400 + (1 + k0)) (List.replicate (400 + (1 + k0)) 0) t none 0 0 _ (HIS.out.below (by repeat (first | exact Below.refl _ _ | assumption | refine Below.drew ?_ | refine below_drewN ?_ _ | refine Below.allocs ?_ | refine Below.next ?_ (by assumption) | refine Below.setCell ?_ (by dsimp only; omega) _))) HNV.out).mono ?_; rintro e w4 ⟨rfl, hb4⟩; obtain ⟨t0, t1, t2, t3, t4⟩ := (HB3.out.alloc _).next hb4)
      | (go_at_call 21; refine (check_no (some ⟨w1.heap.size + 1, 0, none⟩) (400 + (1 + k0)) (400 + (1 + k0)) (List.replicate (400 + (1 + k0)) 0) t _ (HIS.out.below (by repeat (first | exact Below.refl _ _ | assumption | refine Below.drew ?_ | refine below_drewN ?_ _ | refine Below.allocs ?_ | refine Below.next ?_ (by assumption) | refine Below.setCell ?_ (by dsimp only; omega) _))) HNV.out).mono ?_; rintro e w5 ⟨rfl, hb5⟩))
    go_ret
    have hbw := HBW.out
    exact ⟨rfl, (by repeat (first | exact Below.refl _ _ | assumption | refine Below.drew ?_ | refine below_drewN ?_ _ | refine Below.allocs ?_ | refine Below.next ?_ (by assumption) | refine Below.setCell ?_ (by dsimp only; omega) _))⟩
  · go_wp2_with (first
      | (go_at_call 17; (with_reducible refine (C50.out _).mono ?_); rintro e w' ⟨rfl, rfl⟩)
      | (go_at_call 17; (with_reducible refine (C6.out _).mono ?_); rintro e w' ⟨rfl, rfl⟩))
    have hIS : IsHeap ((w1.alloc (.cells #[.slice (some ⟨w1.heap.size + 1, 0, none⟩) 4 4, .int .i64 4] 27)).alloc (.cells #[.int .i64 0, .int .i64 0, .int .i64 (6 + (1 + (k0 : Int))), .int .i64 0] 3)) (some ⟨w1.heap.size + 1, 0, none⟩) 4 4 [0, 0, 6 + (1 + (k0 : Int)), 0] 4 := by
      refine ⟨.inr ⟨w1.heap.size + 1, 0, rfl, by simp, fun i hi => ?_⟩, rfl, Nat.le_refl _, by omega, fun z hz => ?_, fits_small (by omega) (by omega)⟩
      · match i, hi with
        | 0, _ => go_simp
        | 1, _ => go_simp
        | 2, _ => go_simp
        | 3, _ => go_simp
        | i + 4, hi => simp at hi; omega
      · simp at hz
        exact ⟨by omega, by omega⟩
    have hBX : Box2 ((w1.alloc (.cells #[.slice (some ⟨w1.heap.size + 1, 0, none⟩) 4 4, .int .i64 4] 27)).alloc (.cells #[.int .i64 0, .int .i64 0, .int .i64 (6 + (1 + (k0 : Int))), .int .i64 0] 3)) w1.heap.size (.slice (some ⟨w1.heap.size + 1, 0, none⟩) 4 4) (.int .i64 4) := (Box2.new w1 _ _ _).alloc _
    have hBW : Below w.heap.size w ((w1.alloc (.cells #[.slice (some ⟨w1.heap.size + 1, 0, none⟩) 4 4, .int .i64 4] 27)).alloc (.cells #[.int .i64 0, .int .i64 0, .int .i64 (6 + (1 + (k0 : Int))), .int .i64 0] 3)) := (by repeat (first | exact Below.refl _ _ | assumption | refine Below.drew ?_ | refine below_drewN ?_ _ | refine Below.allocs ?_ | refine Below.next ?_ (by assumption) | refine Below.setCell ?_ (by dsimp only; omega) _))
    have hNV : ∀ l, ¬ Valid [0, 0, 6 + (1 + (k0 : Int)), 0] 4 l := fun l h => by
      have h1 := h.objects.1
      rw [show (4 : Int).toNat = 4 from rfl, objs_none (by omega) (fun hf => by have h2 := hf.2.2.1; simp at h2; omega)] at h1
      cases h1
    have HIS := Lib.hide hIS
    have HNV := Lib.hide hNV
    have HBX := Lib.hide hBX
    have HBW := Lib.hide hBW
    clear hIS hNV hBX hBW e299 f299
    generalize (w1.alloc (.cells #[.slice (some ⟨w1.heap.size + 1, 0, none⟩) 4 4, .int .i64 4] 27)).alloc (.cells #[.int .i64 0, .int .i64 0, .int .i64 (6 + (1 + (k0 : Int))), .int .i64 0] 3) = W at HIS HBX HBW ⊢
    refine (places_no (some ⟨w1.heap.size + 1, 0, none⟩) 4 4 [0, 0, 6 + (1 + (k0 : Int)), 0] 4 _ HIS.out HNV.out).mono ?_
    rintro e w2 ⟨rfl, hb2⟩
    have HB2 := Lib.hide (HBX.out.next hb2)
    obtain ⟨r0, r1, r2, r3, r4⟩ := HB2.out
    go_wp2_with (first
      | (go_at_call 23; refine (alloc_no (some ⟨w1.heap.size + 1, 0, none⟩) 4 4 [0, 0, 6 + (1 + (k0 : Int)), 0] 4 0 _ (HIS.out.below (by repeat (first | exact Below.refl _ _ | assumption | refine Below.drew ?_ | refine below_drewN ?_ _ | refine Below.allocs ?_ | refine Below.next ?_ (by assumption) | refine Below.setCell ?_ (by dsimp only; omega) _))) HNV.out).mono ?_; rintro e w3 ⟨rfl, hb3⟩; have HB3 := Lib.hide (HB2.out.next hb3); obtain ⟨s0, s1, s2, s3, s4⟩ := HB3.out)
      | (go_at_call 24; refine (reach_bad (some ⟨w1.heap.size + 1, 0, none⟩) 4 4 [0, 0, 6 + (1 + (k0 : Int)), 0] 4 none 0 0 _ (HIS.out.below (by repeat (first | exact Below.refl _ _ | assumption | refine Below.drew ?_ | refine below_drewN ?_ _ | refine Below.allocs ?_ | refine Below.next ?_ (by assumption) | refine Below.setCell ?_ (by dsimp only; omega) _))) HNV.out).mono ?_; rintro e w4 ⟨rfl, hb4⟩; obtain ⟨t0, t1, t2, t3, t4⟩ := (HB3.out.alloc _).next hb4)
      | (go_at_call 21; refine (check_no (some ⟨w1.heap.size + 1, 0, none⟩) 4 4 [0, 0, 6 + (1 + (k0 : Int)), 0] 4 _ (HIS.out.below (by repeat (first | exact Below.refl _ _ | assumption | refine Below.drew ?_ | refine below_drewN ?_ _ | refine Below.allocs ?_ | refine Below.next ?_ (by assumption) | refine Below.setCell ?_ (by dsimp only; omega) _))) HNV.out).mono ?_; rintro e w5 ⟨rfl, hb5⟩))
    go_ret
    have hbw := HBW.out
    exact ⟨rfl, (by repeat (first | exact Below.refl _ _ | assumption | refine Below.drew ?_ | refine below_drewN ?_ _ | refine Below.allocs ?_ | refine Below.next ?_ (by assumption) | refine Below.setCell ?_ (by dsimp only; omega) _))⟩
  · go_wp2_with (first
      | (go_at_call 17; (with_reducible refine (C50.out _).mono ?_); rintro e w' ⟨rfl, rfl⟩)
      | (go_at_call 17; (with_reducible refine (C6.out _).mono ?_); rintro e w' ⟨rfl, rfl⟩))
    have hIS : IsHeap ((w1.alloc (.cells #[.slice (some ⟨w1.heap.size + 1, 0, none⟩) 4 4, .int .i64 4] 27)).alloc (.cells #[.int .i64 0, .int .i64 0, .int .i64 1, .int .i64 (2 * (1 + (1 + (k0 : Int))) + 1)] 3)) (some ⟨w1.heap.size + 1, 0, none⟩) 4 4 [0, 0, 1, 2 * (1 + (1 + (k0 : Int))) + 1] 4 := by
      refine ⟨.inr ⟨w1.heap.size + 1, 0, rfl, by simp, fun i hi => ?_⟩, rfl, Nat.le_refl _, by omega, fun z hz => ?_, fits_small (by omega) (by omega)⟩
      · match i, hi with
        | 0, _ => go_simp
        | 1, _ => go_simp
        | 2, _ => go_simp
        | 3, _ => go_simp
        | i + 4, hi => simp at hi; omega
      · simp at hz
        exact ⟨by omega, by omega⟩
    have hBX : Box2 ((w1.alloc (.cells #[.slice (some ⟨w1.heap.size + 1, 0, none⟩) 4 4, .int .i64 4] 27)).alloc (.cells #[.int .i64 0, .int .i64 0, .int .i64 1, .int .i64 (2 * (1 + (1 + (k0 : Int))) + 1)] 3)) w1.heap.size (.slice (some ⟨w1.heap.size + 1, 0, none⟩) 4 4) (.int .i64 4) := (Box2.new w1 _ _ _).alloc _
    have hBW : Below w.heap.size w ((w1.alloc (.cells #[.slice (some ⟨w1.heap.size + 1, 0, none⟩) 4 4, .int .i64 4] 27)).alloc (.cells #[.int .i64 0, .int .i64 0, .int .i64 1, .int .i64 (2 * (1 + (1 + (k0 : Int))) + 1)] 3)) := (by repeat (first | exact Below.refl _ _ | assumption | refine Below.drew ?_ | refine below_drewN ?_ _ | refine Below.allocs ?_ | refine Below.next ?_ (by assumption) | refine Below.setCell ?_ (by dsimp only; omega) _))
    have hNV : ∀ l, ¬ Valid [0, 0, 1, 2 * (1 + (1 + (k0 : Int))) + 1] 4 l := fun l h => by
      have h1 := h.objects.1
      have hfit : Fit [0, 0, 1, 2 * (1 + (1 + (k0 : Int))) + 1] 4 1 := ⟨by omega, by simp, by simp, by simp⟩
      rw [show (4 : Int).toNat = 4 from rfl, objs_step (by omega) hfit] at h1
      obtain ⟨l', h2, rfl⟩ := Option.map_eq_some_iff.1 h1
      have h3 := (h.fields 1 (by simp) 0 (by simp)).1 (by first | (simp; done) | (simp; omega))
      simp at h3
      rcases h3 with h3 | h3 | ⟨p, hp, h3⟩
      · omega
      · omega
      · have h4 := ((Objects.laid h.objects).fit p (by simp [hp])).2
        obtain ⟨f1, f2, f3, f4⟩ := h4
        have h5 : p = 2 := by omega
        subst h5
        simp at f4
        omega
    have HIS := Lib.hide hIS
    have HNV := Lib.hide hNV
    have HBX := Lib.hide hBX
    have HBW := Lib.hide hBW
    clear hIS hNV hBX hBW e299 f299
    generalize (w1.alloc (.cells #[.slice (some ⟨w1.heap.size + 1, 0, none⟩) 4 4, .int .i64 4] 27)).alloc (.cells #[.int .i64 0, .int .i64 0, .int .i64 1, .int .i64 (2 * (1 + (1 + (k0 : Int))) + 1)] 3) = W at HIS HBX HBW ⊢
    refine (places_no (some ⟨w1.heap.size + 1, 0, none⟩) 4 4 [0, 0, 1, 2 * (1 + (1 + (k0 : Int))) + 1] 4 _ HIS.out HNV.out).mono ?_
    rintro e w2 ⟨rfl, hb2⟩
    have HB2 := Lib.hide (HBX.out.next hb2)
    obtain ⟨r0, r1, r2, r3, r4⟩ := HB2.out
    go_wp2_with (first
      | (go_at_call 23; refine (alloc_no (some ⟨w1.heap.size + 1, 0, none⟩) 4 4 [0, 0, 1, 2 * (1 + (1 + (k0 : Int))) + 1] 4 0 _ (HIS.out.below (by repeat (first | exact Below.refl _ _ | assumption | refine Below.drew ?_ | refine below_drewN ?_ _ | refine Below.allocs ?_ | refine Below.next ?_ (by assumption) | refine Below.setCell ?_ (by dsimp only; omega) _))) HNV.out).mono ?_; rintro e w3 ⟨rfl, hb3⟩; have HB3 := Lib.hide (HB2.out.next hb3); obtain ⟨s0, s1, s2, s3, s4⟩ := HB3.out)
      | (go_at_call 24; refine (reach_bad (some ⟨w1.heap.size + 1, 0, none⟩) 4 4 [0, 0, 1, 2 * (1 + (1 + (k0 : Int))) + 1] 4 none 0 0 _ (HIS.out.below (by repeat (first | exact Below.refl _ _ | assumption | refine Below.drew ?_ | refine below_drewN ?_ _ | refine Below.allocs ?_ | refine Below.next ?_ (by assumption) | refine Below.setCell ?_ (by dsimp only; omega) _))) HNV.out).mono ?_; rintro e w4 ⟨rfl, hb4⟩; obtain ⟨t0, t1, t2, t3, t4⟩ := (HB3.out.alloc _).next hb4)
      | (go_at_call 21; refine (check_no (some ⟨w1.heap.size + 1, 0, none⟩) 4 4 [0, 0, 1, 2 * (1 + (1 + (k0 : Int))) + 1] 4 _ (HIS.out.below (by repeat (first | exact Below.refl _ _ | assumption | refine Below.drew ?_ | refine below_drewN ?_ _ | refine Below.allocs ?_ | refine Below.next ?_ (by assumption) | refine Below.setCell ?_ (by dsimp only; omega) _))) HNV.out).mono ?_; rintro e w5 ⟨rfl, hb5⟩))
    go_ret
    have hbw := HBW.out
    exact ⟨rfl, (by repeat (first | exact Below.refl _ _ | assumption | refine Below.drew ?_ | refine below_drewN ?_ _ | refine Below.allocs ?_ | refine Below.next ?_ (by assumption) | refine Below.setCell ?_ (by dsimp only; omega) _))⟩
end Go.Proofs.Ytpdcaoagpjcgbab
