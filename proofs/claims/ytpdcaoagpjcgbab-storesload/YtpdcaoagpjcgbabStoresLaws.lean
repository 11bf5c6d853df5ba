/-
  The walk of the law that loading a stored field returns its value. It proves no statement by itself.
-/
import Derived.Test.YtpdcaoagpjcgbabMadeWalks
import Derived.Test.YtpdcaoagpjcgbabEqualWalks
set_option linter.unusedVariables false
set_option linter.unusedSimpArgs false
namespace Go.Proofs.Ytpdcaoagpjcgbab
open Go.RowKit

set_option maxHeartbeats 4000000 in
set_option maxRecDepth 100000 in
open Lw in
theorem storesLoad.walk (a0 : Option Addr) (n0 cap0 : Nat) (R : Nat → Nat → Int) (hc0 : n0 ≤ cap0) (hm0 : cap0 ≤ maxLen) (x0 x1 x2 x3 : Int) (_ : Fits x0) (F1 : Fits x1) (F2 : Fits x2) (F3 : Fits x3) (w : World) (hR : Recs w a0 n0 4 R) :
    Calls Try.prog 3 #[.slice a0 n0 cap0, .agg #[.int .i64 x0, .int .i64 x1, .int .i64 x2, .int .i64 x3]] w fun e w' => e = .returned (.bool true) ∧ Below w.heap.size w w' := by
  unfold maxLen at hm0
  have CM := Lib.hide (fun w' (h : Below w.heap.size w w') => made_any a0 n0 cap0 300 R w' (hR.below h) (by omega) (by omega) (by omega))
  have P2 := Lib.hide F2
  have P3 := Lib.hide F3
  have P1 := Lib.hide F1
  clear hR F1 F2 F3
  go_enter Try.func3, Try.ntmps3
  go_wp2_with fail
  refine (CM.out _ (by repeat (first | exact Below.refl _ _ | assumption | refine Below.drew ?_ | refine below_drewN ?_ _ | refine Below.allocs ?_ | refine Below.next ?_ (by assumption) | refine Below.setCell ?_ (by dsimp only; omega) _))).mono ?_
  rintro e w1 ⟨a1, c1, t, xs, l, rfl, ho1, hv, hfit, hb1, _⟩
  have hxl := ho1.reads.1
  have ht2 := hv.top2
  have ht1 := hv.top1
  rw [hxl] at ht2
  have hlaid := Objects.laid hv.objects
  have hl3 : l.length ≤ 300 := by have := hlaid.short; omega
  have HLD := Lib.hide hlaid
  have HXL := Lib.hide hxl
  have HV := Lib.hide hv
  have HFI := Lib.hide hfit
  have HHP := Lib.hide (ho1.isHeap (top := t) hfit (fits_small (by omega) (by omega)))
  have HO1 := Lib.hide ho1
  have HRW := Lib.hide ((Box4.new w (.int .i64 x0) (.int .i64 x1) (.int .i64 x2) (.int .i64 x3) 24).next hb1)
  obtain ⟨y0, y1, y2, y3, y4⟩ := HRW.out
  clear ho1 hv hfit hlaid hxl
  have hb5 := Lib.hide (Box2.new w1 (.slice a1 300 c1) (.int .i64 t) 27)
  rcases Nat.eq_zero_or_pos l.length with hl0 | hlp
  · have hd0 : ((l.length : Int) == 0) = true := by simp [hl0]
    have hnil : l = [] := List.eq_nil_of_length_eq_zero hl0
    have ht : (t : Int) = 1 := by
      have h := HV.out
      rw [hnil] at h
      exact h.none_top
    have hd1 : ((t : Int) == 1) = true := by simp [ht]
    clear hl0 hnil ht
    go_wp2_with (go_at_call 16; refine (places_yes a1 300 c1 xs t l _ (HHP.out.below (by repeat (first | exact Below.refl _ _ | assumption | refine Below.drew ?_ | refine below_drewN ?_ _ | refine Below.allocs ?_ | refine Below.next ?_ (by assumption) | refine Below.setCell ?_ (by dsimp only; omega) _))) HV.out).mono ?_; rintro e w2 ⟨a2, c2, rfl, ho2, hb2⟩; clear ho2; obtain ⟨s0, s1, s2, s3, s4⟩ := hb5.out.next hb2)
    go_ret
    exact ⟨rfl, (by repeat (first | exact Below.refl _ _ | assumption | refine Below.drew ?_ | refine below_drewN ?_ _ | refine Below.allocs ?_ | refine Below.next ?_ (by assumption) | refine Below.setCell ?_ (by dsimp only; omega) _))⟩
  · have hd0 : ((l.length : Int) == 0) = false := beq_eq_false_iff_ne.2 (by omega)
    obtain ⟨j, hj⟩ := Int.eq_ofNat_of_zero_le (pick_lt x1 l.length (by omega)).1
    have j1 := (pick_lt x1 l.length (by omega)).2
    have CJ := Lib.hide (fun w => picked_any x1 l.length w P1.out (by omega) (by omega))
    rw [hj] at CJ j1
    obtain ⟨f, hf⟩ := Int.eq_ofNat_of_zero_le (pick_lt x2 5 (by omega)).1
    have hf5 := (pick_lt x2 5 (by omega)).2
    have CF := Lib.hide (fun w => picked_any x2 5 w P2.out (by omega) (by omega))
    rw [hf] at CF hf5
    obtain ⟨m, hm⟩ : ∃ m, pick x3 1000 = m := ⟨_, rfl⟩
    have hmb := pick_lt x3 1000 (by omega)
    have CV := Lib.hide (fun w => picked_any x3 1000 w P3.out (by omega) (by omega))
    rw [hm] at CV hmb
    have hjl : j < l.length := by omega
    obtain ⟨p, hp⟩ : ∃ p, l.getD j 0 = p := ⟨_, rfl⟩
    have hpl : p ∈ l := by rw [← hp]; simp [List.getD_eq_getElem?_getD, List.getElem?_eq_getElem hjl]
    obtain ⟨hp1, fit1, fit2, fit3, fit4⟩ := HLD.out.fit p hpl
    have HP := Lib.hide hp
    have HPL := Lib.hide hpl
    clear hj hf hm hp hpl
    obtain ⟨g1, he1, hg11, hg12, hgc1, hgf1⟩ := HO1.out.row (by omega)
    subst he1
    have hx1 := hgc1 (p + 1) (by omega)
    obtain ⟨fn, hfn⟩ : ∃ fn, xs.getD (p + 1) 0 = fn := ⟨_, rfl⟩
    rw [hfn] at hx1 fit2 fit3 fit4
    have HFN := Lib.hide hfn
    clear hfn
    have hcode : codeOf (nums l) 0 (m - 500) = 0 := by unfold codeOf; rw [if_pos rfl, if_pos (by omega)]
    have HCO := Lib.hide hcode
    clear hcode
    by_cases hfield : (f : Int) < fn
    · have hd2 : decide (fn ≤ (f : Int)) = false := by simp; omega
      have hhf : HasField xs l p f := ⟨mem_nums.2 HPL.out, by omega, by rw [Int.toNat_natCast, HFN.out]; exact hfield⟩
      have hvs := HV.out.store HPL.out (by rw [HFN.out]; exact hfield) (fieldOk_of_code HCO.out)
      have hfs := fits_set (i := p + 2 + f) (y := wordOf 0 (m - 500)) HFI.out (wordOf_fits 0 (m - 500) (by omega) (by omega))
      have hap := field_apart HV.out.objects.1 HPL.out HPL.out (k := f) (by rw [HFN.out]; exact hfield)
      have hhf2 : HasField (xs.set (p + 2 + f) (wordOf 0 (m - 500))) l p f := ⟨mem_nums.2 HPL.out, by omega, by rw [Int.toNat_natCast, Lw.getD_set_ne hap.2, HFN.out]; exact hfield⟩
      have hyl : (xs.set (p + 2 + f) (wordOf 0 (m - 500))).length = 300 := by rw [List.length_set]; exact HXL.out
      have hyv : (xs.set (p + 2 + f) (wordOf 0 (m - 500))).getD ((p : Int).toNat + 2 + (f : Int).toNat) 0 = wordOf 0 (m - 500) := by
        rw [Int.toNat_natCast, Int.toNat_natCast]
        exact Lw.getD_set_eq (by rw [HXL.out]; omega)
      have hwb := wordOf_back 0 (m - 500) (.inl rfl)
      have hx2 := hgc1 (p + 2 + f) (by omega)
      have hx3 := hgf1 (p + 2 + f)
      obtain ⟨ys, hys⟩ : ∃ ys, xs.set (p + 2 + f) (wordOf 0 (m - 500)) = ys := ⟨_, rfl⟩
      have CS := Lib.hide (fun w' (h : IsHeap w' (some ⟨g1, 0, none⟩) 300 c1 xs t) => store_yes (some ⟨g1, 0, none⟩) 300 c1 xs t 0 (m - 500) p f l w' h HV.out hhf HCO.out)
      rw [hys] at hvs hfs hhf2 hyl hyv CS
      obtain ⟨z, hz⟩ : ∃ z, xs.getD (p + 2 + f) 0 = z := ⟨_, rfl⟩
      rw [hz] at hx2
      have CL := Lib.hide (fun a' c' w' (h : IsHeap w' a' 300 c' ys t) => load_yes a' 300 c' ys t p f l w' h hvs hhf2 _ hyv)
      rw [hwb.1, hwb.2] at CL
      have HVS := Lib.hide hvs
      have HFS := Lib.hide hfs
      have HYL := Lib.hide hyl
      have HYV := Lib.hide hyv
      have HYS := Lib.hide hys
      have HX1 := Lib.hide hx1
      have HX2 := Lib.hide hx2
      have HX3 := Lib.hide hx3
      clear hhf hvs hfs hap hhf2 hyl hyv hwb hys hz hgc1 hgf1 hx1 hx2 hx3
      have hmm : (m - 500 == m - 500) = true := by simp
      go_wp2_with (first
        | (go_at_call 16; refine (places_yes (some ⟨g1, 0, none⟩) 300 c1 xs t l _ (HHP.out.below (by repeat (first | exact Below.refl _ _ | assumption | refine Below.drew ?_ | refine below_drewN ?_ _ | refine Below.allocs ?_ | refine Below.next ?_ (by assumption) | refine Below.setCell ?_ (by dsimp only; omega) _))) HV.out).mono ?_; rintro e w2 ⟨a2, c2, rfl, ho2, hb2⟩; obtain ⟨g2, he2, hg21, hg22, hgc2, _⟩ := ho2.row hlp; subst he2; have ep := hgc2 j hjl; rw [nums_getD, HP.out] at ep; clear ho2 hgc2; have HB52 := Lib.hide (hb5.out.next hb2); obtain ⟨s0, s1, s2, s3, s4⟩ := HB52.out; have HRW2 := Lib.hide ((HRW.out.next (w' := w2) (by repeat (first | exact Below.refl _ _ | assumption | refine Below.drew ?_ | refine below_drewN ?_ _ | refine Below.allocs ?_ | refine Below.next ?_ (by assumption) | refine Below.setCell ?_ (by dsimp only; omega) _)))); obtain ⟨z0, z1, z2, z3, z4⟩ := HRW2.out)
        | (go_at_call 17; (with_reducible refine (CJ.out _).mono ?_); rintro e w' ⟨rfl, rfl⟩)
        | (go_at_call 17; (with_reducible refine (CF.out _).mono ?_); rintro e w' ⟨rfl, rfl⟩)
        | (go_at_call 17; (with_reducible refine (CV.out _).mono ?_); rintro e w' ⟨rfl, rfl⟩)
        | (go_at_call 18; refine (CS.out _ (HHP.out.below (by repeat (first | exact Below.refl _ _ | assumption | refine Below.drew ?_ | refine below_drewN ?_ _ | refine Below.allocs ?_ | refine Below.next ?_ (by assumption) | refine Below.setCell ?_ (by dsimp only; omega) _)))).mono ?_; rintro e w3 ⟨a3, c3, rfl, ho3, hb3⟩; obtain ⟨g3, he3, hg31, hg32, hgc3, _⟩ := ho3.row (by omega); subst he3; have HO3 := Lib.hide ho3; have HY3 := Lib.hide (hgc3 (p + 2 + f) (by omega)); clear ho3 hgc3; have HB53 := Lib.hide (HB52.out.next (w' := w3) (by repeat (first | exact Below.refl _ _ | assumption | refine Below.drew ?_ | refine below_drewN ?_ _ | refine Below.allocs ?_ | refine Below.next ?_ (by assumption) | refine Below.setCell ?_ (by dsimp only; omega) _))); obtain ⟨r0, r1, r2, r3, r4⟩ := HB53.out; have r5 := ((show Below w1.heap.size w1 w3 from (by repeat (first | exact Below.refl _ _ | assumption | refine Below.drew ?_ | refine below_drewN ?_ _ | refine Below.allocs ?_ | refine Below.next ?_ (by assumption) | refine Below.setCell ?_ (by dsimp only; omega) _))).cell (p := ⟨g1, p + 1, none⟩) hg12).trans HX1.out; have r6 : g1 < w3.heap.size := Nat.lt_of_lt_of_le hg12 (show Below w1.heap.size w1 w3 from (by repeat (first | exact Below.refl _ _ | assumption | refine Below.drew ?_ | refine below_drewN ?_ _ | refine Below.allocs ?_ | refine Below.next ?_ (by assumption) | refine Below.setCell ?_ (by dsimp only; omega) _))).size; have HVB3 := Lib.hide ((Box2.new w2 (.int .i64 0) (.int .i64 (m - 500)) 34).next hb3))
        | (go_at_call 19; refine (CL.out _ _ _ ((HO3.out.isHeap HFS.out (fits_small (by omega) (by omega))).below (by repeat (first | exact Below.refl _ _ | assumption | refine Below.drew ?_ | refine below_drewN ?_ _ | refine Below.allocs ?_ | refine Below.next ?_ (by assumption) | refine Below.setCell ?_ (by dsimp only; omega) _)))).mono ?_; rintro e w4 ⟨rfl, hb4⟩; have HB54 := Lib.hide (HB53.out.next (w' := w4) (by repeat (first | exact Below.refl _ _ | assumption | refine Below.drew ?_ | refine below_drewN ?_ _ | refine Below.allocs ?_ | refine Below.next ?_ (by assumption) | refine Below.setCell ?_ (by dsimp only; omega) _))); have HN4 := Lib.hide ((Box2.new w3 (.slice (some ⟨g3, 0, none⟩) 300 c3) (.int .i64 t) 27).next hb4); have HVB4 := Lib.hide (HVB3.out.next (w' := w4) (by repeat (first | exact Below.refl _ _ | assumption | refine Below.drew ?_ | refine below_drewN ?_ _ | refine Below.allocs ?_ | refine Below.next ?_ (by assumption) | refine Below.setCell ?_ (by dsimp only; omega) _)))))
      have k0 := HB54.out
      obtain ⟨k00, k01, k02, k03, k04⟩ := k0
      have k1 := HN4.out
      obtain ⟨k10, k11, k12, k13, k14⟩ := k1
      have k2 := HVB4.out
      obtain ⟨k20, k21, k22, k23, k24⟩ := k2
      have hb34 : Below w3.heap.size w3 w4 := (by repeat (first | exact Below.refl _ _ | assumption | refine Below.drew ?_ | refine below_drewN ?_ _ | refine Below.allocs ?_ | refine Below.next ?_ (by assumption) | refine Below.setCell ?_ (by dsimp only; omega) _))
      have hb14 : Below w1.heap.size w1 w4 := (by repeat (first | exact Below.refl _ _ | assumption | refine Below.drew ?_ | refine below_drewN ?_ _ | refine Below.allocs ?_ | refine Below.next ?_ (by assumption) | refine Below.setCell ?_ (by dsimp only; omega) _))
      have k3 := (hb14.cell (p := ⟨g1, p + 2 + f, none⟩) hg12).trans HX2.out
      have k4 := (hb14.frozen (p := ⟨g1, p + 2 + f, none⟩) hg12).trans HX3.out
      have k5 : g1 < w4.heap.size := Nat.lt_of_lt_of_le hg12 hb14.size
      have hyv2 : ys.getD (p + 2 + f) 0 = wordOf 0 (m - 500) := by have := HYV.out; rwa [Int.toNat_natCast, Int.toNat_natCast] at this
      have k6 := (hb34.cell (p := ⟨g3, p + 2 + f, none⟩) hg32).trans (HY3.out.trans (by rw [hyv2]))
      have k7 : g3 < w4.heap.size := Nat.lt_of_lt_of_le hg32 hb34.size
      clear hyv2
      have i1 : IntKind.i64.wrap ((p : Int) + 2) = (p : Int) + 2 := IntWalk.i64_in _ (by omega)
      have i2 : IntKind.i64.wrap ((p : Int) + 2 + (f : Int)) = (p : Int) + 2 + (f : Int) := IntWalk.i64_in _ (by omega)
      have i3 : (0 : Int) ≤ (p : Int) + 2 + (f : Int) := by omega
      have i4 : (p : Int) + 2 + (f : Int) < 300 := by omega
      have i5 : ((p : Int) + 2 + (f : Int)).toNat = p + 2 + f := by omega
      go_region
      clear i1 i2 i3 i4 i5
      go_wp2_with fail
      have hne31 : (Value.slice (some ⟨g3, 0, none⟩) 300 c3).ownBlock ≠ some g1 := fun h => by
        simp [Value.ownBlock] at h
        simp at hg31
        have := hb2.size
        simp at this
        omega
      have hown1 : Own ((w4.setCell ⟨g1, p + 2 + f, none⟩ (.int .i64 (wordOf 0 (m - 500)))).alloc (.cells #[.int .i64 0, .int .i64 (m - 500)] 34)).drew 0 (.slice (some ⟨g1, 0, none⟩) 300 c1) ys := by
        have := (((HO1.out.below hb14).stored (p + 2 + f) (wordOf 0 (m - 500))).allocs (.cells #[.int .i64 0, .int .i64 (m - 500)] 34)).drews
        rw [HYS.out] at this
        exact ownsRow_base this (Nat.zero_le _)
      have hown3 : Own ((w4.setCell ⟨g1, p + 2 + f, none⟩ (.int .i64 (wordOf 0 (m - 500)))).alloc (.cells #[.int .i64 0, .int .i64 (m - 500)] 34)).drew 0 (.slice (some ⟨g3, 0, none⟩) 300 c3) ys := ownsRow_base ((((HO3.out.below hb34).far hne31 _).allocs _).drews) (Nat.zero_le _)
      have hg13 : w.heap.size ≤ g1 := by simp at hg11; omega
      have hbW : Below w.heap.size w ((w4.setCell ⟨g1, p + 2 + f, none⟩ (.int .i64 (wordOf 0 (m - 500)))).alloc (.cells #[.int .i64 0, .int .i64 (m - 500)] 34)).drew := (by repeat (first | exact Below.refl _ _ | assumption | refine Below.drew ?_ | refine below_drewN ?_ _ | refine Below.allocs ?_ | refine Below.next ?_ (by assumption) | refine Below.setCell ?_ (by dsimp only; omega) _))
      refine (equal_same _ _ 300 c1 c3 ys _ hown1.reads.2 hown3.reads.2 HYL.out (by omega)).mono ?_
      rintro e w6 ⟨rfl, hb6⟩
      have hn5 : w3.heap.size ≠ g1 := by omega
      have hN6 : Box2 w6 w3.heap.size (.slice (some ⟨g3, 0, none⟩) 300 c3) (.int .i64 t) := (((HN4.out.far hn5 _).alloc _).next (w' := ((w4.setCell ⟨g1, p + 2 + f, none⟩ (.int .i64 (wordOf 0 (m - 500)))).alloc (.cells #[.int .i64 0, .int .i64 (m - 500)] 34)).drew) (by repeat (first | exact Below.refl _ _ | assumption | refine Below.drew ?_ | refine below_drewN ?_ _ | refine Below.allocs ?_ | refine Below.next ?_ (by assumption) | refine Below.setCell ?_ (by dsimp only; omega) _))).next hb6
      have hIs6 := (hown3.isHeap (top := t) HFS.out (fits_small (by omega) (by omega))).below hb6
      have HIs := Lib.hide hIs6
      have HBW := Lib.hide (Below.next hbW hb6)
      obtain ⟨t0, t1, t2, t3, t4⟩ := hN6
      clear hown1 hown3 hIs6 hbW
      go_wp2_with (go_at_call 21; refine (check_yes _ 300 c3 ys t l _ HIs.out HVS.out).mono ?_; rintro e w7 ⟨rfl, hb7⟩)
      go_ret
      exact ⟨rfl, Below.next HBW.out hb7⟩
    · have hd2 : decide (fn ≤ (f : Int)) = true := by simp; omega
      have hno : ¬ HasField xs l p f := fun h => hfield (by have := h.2.2; rwa [Int.toNat_natCast, HFN.out] at this)
      have HNO := Lib.hide hno
      clear hno hgc1 hgf1
      have HX1 := Lib.hide hx1
      clear hx1
      go_wp2_with (first
        | (go_at_call 16; refine (places_yes (some ⟨g1, 0, none⟩) 300 c1 xs t l _ (HHP.out.below (by repeat (first | exact Below.refl _ _ | assumption | refine Below.drew ?_ | refine below_drewN ?_ _ | refine Below.allocs ?_ | refine Below.next ?_ (by assumption) | refine Below.setCell ?_ (by dsimp only; omega) _))) HV.out).mono ?_; rintro e w2 ⟨a2, c2, rfl, ho2, hb2⟩; obtain ⟨g2, he2, hg21, hg22, hgc2, _⟩ := ho2.row hlp; subst he2; have ep := hgc2 j hjl; rw [nums_getD, HP.out] at ep; clear ho2 hgc2; have HB52 := Lib.hide (hb5.out.next hb2); obtain ⟨s0, s1, s2, s3, s4⟩ := HB52.out; have HRW2 := Lib.hide ((HRW.out.next (w' := w2) (by repeat (first | exact Below.refl _ _ | assumption | refine Below.drew ?_ | refine below_drewN ?_ _ | refine Below.allocs ?_ | refine Below.next ?_ (by assumption) | refine Below.setCell ?_ (by dsimp only; omega) _)))); obtain ⟨z0, z1, z2, z3, z4⟩ := HRW2.out)
        | (go_at_call 17; (with_reducible refine (CJ.out _).mono ?_); rintro e w' ⟨rfl, rfl⟩)
        | (go_at_call 17; (with_reducible refine (CF.out _).mono ?_); rintro e w' ⟨rfl, rfl⟩)
        | (go_at_call 17; (with_reducible refine (CV.out _).mono ?_); rintro e w' ⟨rfl, rfl⟩)
        | (go_at_call 18; refine (store_none (some ⟨g1, 0, none⟩) 300 c1 xs t p f 0 (m - 500) l _ (HHP.out.below (by repeat (first | exact Below.refl _ _ | assumption | refine Below.drew ?_ | refine below_drewN ?_ _ | refine Below.allocs ?_ | refine Below.next ?_ (by assumption) | refine Below.setCell ?_ (by dsimp only; omega) _))) HV.out HNO.out).mono ?_; rintro e w3 ⟨rfl, hb3⟩; obtain ⟨r0, r1, r2, r3, r4⟩ := HB52.out.next (w' := w3) (by repeat (first | exact Below.refl _ _ | assumption | refine Below.drew ?_ | refine below_drewN ?_ _ | refine Below.allocs ?_ | refine Below.next ?_ (by assumption) | refine Below.setCell ?_ (by dsimp only; omega) _)); have r5 := ((show Below w1.heap.size w1 w3 from (by repeat (first | exact Below.refl _ _ | assumption | refine Below.drew ?_ | refine below_drewN ?_ _ | refine Below.allocs ?_ | refine Below.next ?_ (by assumption) | refine Below.setCell ?_ (by dsimp only; omega) _))).cell (p := ⟨g1, p + 1, none⟩) hg12).trans HX1.out; have r6 : g1 < w3.heap.size := Nat.lt_of_lt_of_le hg12 (show Below w1.heap.size w1 w3 from (by repeat (first | exact Below.refl _ _ | assumption | refine Below.drew ?_ | refine below_drewN ?_ _ | refine Below.allocs ?_ | refine Below.next ?_ (by assumption) | refine Below.setCell ?_ (by dsimp only; omega) _))).size))
      go_ret
      exact ⟨rfl, (by repeat (first | exact Below.refl _ _ | assumption | refine Below.drew ?_ | refine below_drewN ?_ _ | refine Below.allocs ?_ | refine Below.next ?_ (by assumption) | refine Below.setCell ?_ (by dsimp only; omega) _))⟩
end Go.Proofs.Ytpdcaoagpjcgbab
