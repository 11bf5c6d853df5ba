/-
  The walk of the law that reachable objects refer only to reachable objects. It proves no statement by itself.
-/
import Derived.Test.YtpdcaoagpjcgbabMadeWalks
import Derived.Test.YtpdcaoagpjcgbabRootsWalks
import Derived.Test.YtpdcaoagpjcgbabEqualWalks
import Derived.Test.YtpdcaoagpjcgbabReachesModel
set_option linter.unusedVariables false
set_option linter.unusedSimpArgs false
namespace Go.Proofs.Ytpdcaoagpjcgbab
open Go.RowKit

theorem ints_new1 (w : World) (x : Int) : Ints (w.alloc (.cells #[.int .i64 x] 3)) (some ⟨w.heap.size, 0, none⟩) [x] := by
  refine .inr ⟨w.heap.size, 0, rfl, by simp, fun i hi => ?_⟩
  match i, hi with
  | 0, _ => go_simp
  | i + 1, hi => simp at hi

set_option maxHeartbeats 4000000 in
set_option maxRecDepth 100000 in
open Lw in
theorem reachesAll.walk (a0 : Option Addr) (n0 cap0 : Nat) (R0 : Nat → Nat → Int) (hc0 : n0 ≤ cap0) (hm0 : cap0 ≤ maxLen) (a1 : Option Addr) (n1 cap1 : Nat) (R1 : Nat → Nat → Int) (_ : n1 ≤ cap1) (_ : cap1 ≤ maxLen) (w : World) (hR0 : Recs w a0 n0 4 R0) (hR1 : Recs w a1 n1 4 R1) :
    Calls Try.prog 6 #[.slice a0 n0 cap0, .slice a1 n1 cap1] w fun e w' => e = .returned (.bool true) ∧ Below w.heap.size w w' := by
  unfold maxLen at hm0
  have CM := Lib.hide (fun w' (h : Below w.heap.size w w') => made_any a0 n0 cap0 300 R0 w' (hR0.below h) (by omega) (by omega) (by omega))
  have HR1 := Lib.hide hR1
  clear hR0 hR1
  go_enter Try.func6, Try.ntmps6
  go_wp2_with fail
  have hIS0 : IsHeap (w.alloc (.cells #[.int .i64 0, .int .i64 0, .int .i64 0, .int .i64 0, .int .i64 1, .int .i64 3] 3)) (some ⟨w.heap.size, 0, none⟩) 6 6 [0, 0, 0, 0, 1, 3] 6 := by
    refine ⟨.inr ⟨w.heap.size, 0, rfl, by simp, fun i hi => ?_⟩, rfl, Nat.le_refl _, by omega, fun z hz => ?_, fits_small (by omega) (by omega)⟩
    · match i, hi with
      | 0, _ => go_simp
      | 1, _ => go_simp
      | 2, _ => go_simp
      | 3, _ => go_simp
      | 4, _ => go_simp
      | 5, _ => go_simp
      | i + 6, hi => simp at hi; omega
    · simp at hz
      exact ⟨by omega, by omega⟩
  refine (reach_yes (some ⟨w.heap.size, 0, none⟩) 6 6 [0, 0, 0, 0, 1, 3] 6 [1, 3] (some ⟨w.heap.size + 1, 0, none⟩) 1 1 [3] _ (hIS0.below (by repeat (first | exact Below.refl _ _ | assumption | refine Below.drew ?_ | refine below_drewN ?_ _ | refine Below.allocs ?_ | refine Below.next ?_ (by assumption) | refine Below.setCell ?_ (by dsimp only; omega) _))) valid_two ?_ rfl (by omega) (fun x hx => .inr (by simp at hx; subst hx; simp [nums]))).mono ?_
  · have := ints_new1 (w.alloc (.cells #[.int .i64 0, .int .i64 0, .int .i64 0, .int .i64 0, .int .i64 1, .int .i64 3] 3)) 3
    rwa [show (w.alloc (.cells #[.int .i64 0, .int .i64 0, .int .i64 0, .int .i64 0, .int .i64 1, .int .i64 3] 3)).heap.size = w.heap.size + 1 by simp] at this
  rintro e w1 ⟨z2, b2, c2, hz2, rfl, _, hb1⟩
  rw [reach_two hz2]
  have hbw1 : Below w.heap.size w w1 := (by repeat (first | exact Below.refl _ _ | assumption | refine Below.drew ?_ | refine below_drewN ?_ _ | refine Below.allocs ?_ | refine Below.next ?_ (by assumption) | refine Below.setCell ?_ (by dsimp only; omega) _))
  clear hIS0 hz2 hb1
  go_wp2_with fail
  refine (CM.out _ (by repeat (first | exact Below.refl _ _ | assumption | refine Below.drew ?_ | refine below_drewN ?_ _ | refine Below.allocs ?_ | refine Below.next ?_ (by assumption) | refine Below.setCell ?_ (by dsimp only; omega) _))).mono ?_
  rintro e w2 ⟨a, c, t, xs, l, rfl, ho2, hv, hfit, hb2, ht241⟩
  have hxl := ho2.reads.1
  have HHP := Lib.hide (ho2.isHeap (top := t) hfit (fits_small (by omega) (by omega)))
  have HXL := Lib.hide hxl
  have HFI := Lib.hide hfit
  have HV := Lib.hide hv
  have HL := Lib.hide (Objects.laid hv.objects)
  have hl4 : l.length ≤ 400 := by
    have := HL.out.short
    rw [Int.toNat_natCast] at this
    omega
  have hbw2 : Below w.heap.size w w2 := Below.next hbw1 hb2
  clear ho2 hfit hv hxl hb2 hbw1 CM
  go_wp2_with fail
  refine (roots_any a 300 c xs t l a1 n1 cap1 R1 _ (HHP.out.below (by repeat (first | exact Below.refl _ _ | assumption | refine Below.drew ?_ | refine below_drewN ?_ _ | refine Below.allocs ?_ | refine Below.next ?_ (by assumption) | refine Below.setCell ?_ (by dsimp only; omega) _))) HV.out (HR1.out.below (by repeat (first | exact Below.refl _ _ | assumption | refine Below.drew ?_ | refine below_drewN ?_ _ | refine Below.allocs ?_ | refine Below.next ?_ (by assumption) | refine Below.setCell ?_ (by dsimp only; omega) _)))).mono ?_
  rintro e w3 ⟨rs, ar, cr, rfl, ho3, hrm, hr3, hb3⟩
  have HRN := Lib.hide (show ∀ x ∈ rs, x ≠ 0 from fun x hx h0 => by
    obtain ⟨p, hp, hq⟩ := List.mem_map.1 (hrm x hx)
    have := (HL.out.fit p hp).1
    omega)
  have HRO := Lib.hide (show RootsOk (nums l) rs from fun x hx => .inr (hrm x hx))
  have HIR := Lib.hide ho3.reads.2
  have HBX := Lib.hide ((Box2.new w2 (.slice a 300 c) (.int .i64 t) 27).next hb3)
  obtain ⟨q0, q1, q2, q3, q4⟩ := HBX.out
  clear ho3 hrm
  go_wp2_with fail
  refine (reach_yes a 300 c xs t l ar rs.length cr rs _ (HHP.out.below (by repeat (first | exact Below.refl _ _ | assumption | refine Below.drew ?_ | refine below_drewN ?_ _ | refine Below.allocs ?_ | refine Below.next ?_ (by assumption) | refine Below.setCell ?_ (by dsimp only; omega) _))) HV.out HIR.out rfl (by omega) HRO.out).mono ?_
  rintro e w4 ⟨zs, az, cz, hzs, rfl, ho4, hb4⟩
  have HBX4 := Lib.hide (HBX.out.next hb4)
  have HIZ := Lib.hide ho4.reads.2
  have HIR4 := Lib.hide (HIR.out.below hb4)
  have HHP4 := Lib.hide (HHP.out.below (w' := w4) (by repeat (first | exact Below.refl _ _ | assumption | refine Below.drew ?_ | refine below_drewN ?_ _ | refine Below.allocs ?_ | refine Below.next ?_ (by assumption) | refine Below.setCell ?_ (by dsimp only; omega) _)))
  have HBW4 := Lib.hide (show Below w.heap.size w w4 from (by repeat (first | exact Below.refl _ _ | assumption | refine Below.drew ?_ | refine below_drewN ?_ _ | refine Below.allocs ?_ | refine Below.next ?_ (by assumption) | refine Below.setCell ?_ (by dsimp only; omega) _)))
  have hzl : zs.length ≤ 400 := Nat.le_trans hzs.length hl4
  have HZS := Lib.hide hzs
  have HMEM := Lib.hide (fun q => hzs.mem HV.out.fields HRO.out (q := q))
  clear HBX HIR HHP q0 q1 q2 q3 q4 hb3 hb4 hbw2 ho4 hzs HR1
  have HZL := Lib.hide (fun (q : Int) (hq : q ∈ zs) => (HMEM.out q).1 hq |>.mem HV.out.fields HRO.out)
  have hl1 : ∀ p ∈ l, 1 ≤ p := fun p hp => (HL.out.fit p hp).1
  have HSELF := Lib.hide (HZS.out.self HV.out.fields HRO.out hl1)
  clear hl1
  generalize w2.heap.size = B at HBX4 ⊢
  obtain ⟨b, o, rfl, hb, hc⟩ := HHP4.out.ints.at (by rw [HXL.out]; omega)
  have HC := Lib.hide hc
  have hcap1 := HHP4.out.cap1
  have hcap2 := HHP4.out.cap2
  clear hc
  go_wp2_with fail
  go_loopw [51] (fun u wr => ∃ i : Nat, i ≤ zs.length ∧ u = .int .i64 i ∧ Below w4.heap.size w4 wr) (fun u _ => zs.length - (intOf u).toNat)
  case atStart => exact ⟨0, Nat.zero_le _, rfl, (by repeat (first | exact Below.refl _ _ | assumption | refine Below.drew ?_ | refine below_drewN ?_ _ | refine Below.allocs ?_ | refine Below.next ?_ (by assumption) | refine Below.setCell ?_ (by dsimp only; omega) _))⟩
  case round =>
    obtain ⟨i, hi, rfl, hbel⟩ := hrel
    obtain ⟨s0, s1, s2, s3, s4⟩ := HBX4.out.next hbel
    by_cases hin : i < zs.length
    · obtain ⟨bz, oz, haz, hbz, hcz⟩ := (HIZ.out.below hbel).at (by omega)
      subst haz
      have e1 := hcz i hin
      have hpz := mem_getD hin
      obtain ⟨p, hp, hpl⟩ : ∃ p : Nat, zs.getD i 0 = (p : Int) ∧ p ∈ l := by
        obtain ⟨p, hp, hq⟩ := List.mem_map.1 (HZL.out _ hpz)
        exact ⟨p, hq.symm, hp⟩
      rw [hp] at e1 hpz
      obtain ⟨hp1, f1, f2, f3, f4⟩ := HL.out.fit p hpl
      rw [Int.toNat_natCast] at f1 f4
      have e2 : wr.cell? ⟨b, o + (p + 1), none⟩ = some (.int .i64 (xs.getD (p + 1) 0)) := (hbel.cell (p := ⟨b, o + (p + 1), none⟩) (by simpa using hb)).trans (HC.out (p + 1) (by rw [HXL.out]; omega))
      have HPZ := Lib.hide hpz
      have HPL := Lib.hide hpl
      clear hcz hp hpz hpl
      obtain ⟨f, hf⟩ : ∃ f, xs.getD (p + 1) 0 = f := ⟨_, rfl⟩
      rw [hf] at e2 f2 f3 f4
      have HFF := Lib.hide hf
      clear hf
      obtain ⟨f, rfl⟩ := Int.eq_ofNat_of_zero_le f2
      rw [Int.toNat_natCast] at f4
      by_cases hf0 : f = 0
      · subst hf0
        by_cases hcp : c = p + 2
        · omega
        · go_wp2
          go_quiet (fail)
          go_wp2
          refine wp_loop_rounds 1 ?_; rw [rounds_succ]
          go_wp2
          go_roundw
          case rel => exact ⟨i + 1, by omega, by go_num, (by repeat (first | exact Below.refl _ _ | assumption | refine Below.drew ?_ | refine below_drewN ?_ _ | refine Below.allocs ?_ | refine Below.next ?_ (by assumption) | refine Below.setCell ?_ (by dsimp only; omega) _))⟩
          case measure => simp [intOf]; omega
      · have hcp : ¬ c = p + 2 := by omega
        go_wp2
        go_quiet (fail)
        go_wp2
        obtain ⟨wo, rfl⟩ : ∃ wo : World, wo = wr := ⟨_, rfl⟩
        rw [show p + 2 + f - (p + 2) = f by omega]
        go_loopw [70] (fun u wq => ∃ j : Nat, j ≤ f ∧ u = .int .i64 j ∧ Below wo.heap.size wo wq) (fun u _ => f - (intOf u).toNat)
        case atStart => exact ⟨0, Nat.zero_le _, rfl, (by repeat (first | exact Below.refl _ _ | assumption | refine Below.drew ?_ | refine below_drewN ?_ _ | refine Below.allocs ?_ | refine Below.next ?_ (by assumption) | refine Below.setCell ?_ (by dsimp only; omega) _))⟩
        case round =>
          obtain ⟨j, hj, rfl, hbo⟩ := hrel
          by_cases hjf : j < f
          · have e3 : wr.cell? ⟨b, o + (p + 2) + j, none⟩ = some (.int .i64 (xs.getD (p + 2 + j) 0)) := by
              rw [(Below.next hbel hbo).cell (p := ⟨b, o + (p + 2) + j, none⟩) (by simpa using hb)]
              have := HC.out (p + 2 + j) (by rw [HXL.out]; omega)
              rwa [← Nat.add_assoc] at this
            have hyf := fits_get HFI.out (i := p + 2 + j) (by rw [HXL.out]; omega)
            obtain ⟨y, hy⟩ : ∃ y, xs.getD (p + 2 + j) 0 = y := ⟨_, rfl⟩
            rw [hy] at e3 hyf
            have OF := Lib.hide (fun w => of_any y w hyf)
            obtain ⟨kk, hkk⟩ : ∃ kk, y % 2 = kk := ⟨_, rfl⟩
            obtain ⟨mm, hmm⟩ : ∃ mm, y / 2 = mm := ⟨_, rfl⟩
            rw [hkk, hmm] at OF
            have HY := Lib.hide hy
            have HKK := Lib.hide hkk
            have HMM := Lib.hide hmm
            clear hy hyf hkk hmm
            by_cases hk1 : kk = 1
            · have hd1 : (kk == 1) = true := by simpa using hk1
              by_cases hm0 : mm = 0
              · have hd2 : (mm != 0) = false := by simpa using hm0
                have HK1 := Lib.hide hk1
                have HM0 := Lib.hide hm0
                clear hk1 hm0
                go_wp2_with (go_at_call 26; refine (OF.out _).mono ?_; rintro e w5 ⟨rfl, hb5⟩)
                go_roundw
                case rel => exact ⟨j + 1, by omega, by go_num, (by repeat (first | exact Below.refl _ _ | assumption | refine Below.drew ?_ | refine below_drewN ?_ _ | refine Below.allocs ?_ | refine Below.next ?_ (by assumption) | refine Below.setCell ?_ (by dsimp only; omega) _))⟩
                case measure => simp [intOf]; omega
              · have hd2 : (mm != 0) = true := by simpa using hm0
                have hq : mm ∈ zs := (HMEM.out mm).2 (.step ((HMEM.out p).1 HPZ.out) ⟨j, by rw [HFF.out]; omega, by rw [HY.out, HKK.out, hk1], by rw [HY.out, HMM.out], hm0⟩)
                have HQ := Lib.hide (decide_eq_true hq)
                clear hk1 hm0 hq
                go_wp2_with (first
                  | (go_at_call 26; refine (OF.out _).mono ?_; rintro e w5 ⟨rfl, hb5⟩)
                  | (go_at_call 27; refine (contains_any (some ⟨bz, oz, none⟩) zs.length cz zs mm _ (HIZ.out.below (by repeat (first | exact Below.refl _ _ | assumption | refine Below.drew ?_ | refine below_drewN ?_ _ | refine Below.allocs ?_ | refine Below.next ?_ (by assumption) | refine Below.setCell ?_ (by dsimp only; omega) _))) rfl (by omega) true HQ.out).mono ?_; rintro e w6 ⟨rfl, rfl⟩))
                go_roundw
                case rel => exact ⟨j + 1, by omega, by go_num, (by repeat (first | exact Below.refl _ _ | assumption | refine Below.drew ?_ | refine below_drewN ?_ _ | refine Below.allocs ?_ | refine Below.next ?_ (by assumption) | refine Below.setCell ?_ (by dsimp only; omega) _))⟩
                case measure => simp [intOf]; omega
            · have hd1 : (kk == 1) = false := by simpa using hk1
              have HK1 := Lib.hide hk1
              clear hk1
              go_wp2_with (go_at_call 26; refine (OF.out _).mono ?_; rintro e w5 ⟨rfl, hb5⟩)
              go_roundw
              case rel => exact ⟨j + 1, by omega, by go_num, (by repeat (first | exact Below.refl _ _ | assumption | refine Below.drew ?_ | refine below_drewN ?_ _ | refine Below.allocs ?_ | refine Below.next ?_ (by assumption) | refine Below.setCell ?_ (by dsimp only; omega) _))⟩
              case measure => simp [intOf]; omega
          · go_wp2
            go_roundw
            case rel => exact ⟨i + 1, by omega, by go_num, Below.next hbel hbo⟩
            case measure => simp [intOf]; omega
    · go_wp2_with fail
      clear s0 s1 s2 s3 s4 hin hi
      go_loopw [95] (fun u wr => ∃ i : Nat, i ≤ rs.length ∧ u = .int .i64 i ∧ Below w4.heap.size w4 wr) (fun u _ => rs.length - (intOf u).toNat)
      case atStart => exact ⟨0, Nat.zero_le _, rfl, (by repeat (first | exact Below.refl _ _ | assumption | refine Below.drew ?_ | refine below_drewN ?_ _ | refine Below.allocs ?_ | refine Below.next ?_ (by assumption) | refine Below.setCell ?_ (by dsimp only; omega) _))⟩
      case round =>
        clear hbel
        obtain ⟨i, hi, rfl, hbel⟩ := hrel
        obtain ⟨s0, s1, s2, s3, s4⟩ := HBX4.out.next hbel
        by_cases hin : i < rs.length
        · obtain ⟨br, or, har, hbr, hcr⟩ := (HIR4.out.below hbel).at (by omega)
          subst har
          have e1 := hcr i hin
          have hxr := mem_getD hin
          generalize rs.getD i 0 = x at e1 hxr
          have hxl := (HRO.out x hxr)
          have HXR := Lib.hide hxr
          clear hcr hxr
          have hx0 : x ≠ 0 := HRN.out x HXR.out
          have hxz : x ∈ zs := (HMEM.out x).2 (.root HXR.out hx0)
          have HXZ := Lib.hide (decide_eq_true hxz)
          have HRO1 := Lib.hide (show RootsOk (nums l) [x] from fun q hq => by simp at hq; subst hq; exact hxl)
          have HX0 := Lib.hide hx0
          clear hxl hx0 hxz
          go_wp2_with fail
          refine (reach_yes (some ⟨b, o, none⟩) 300 c xs t l (some ⟨wr.heap.size, 0, none⟩) 1 1 [x] _ (HHP4.out.below (by repeat (first | exact Below.refl _ _ | assumption | refine Below.drew ?_ | refine below_drewN ?_ _ | refine Below.allocs ?_ | refine Below.next ?_ (by assumption) | refine Below.setCell ?_ (by dsimp only; omega) _))) HV.out (ints_new1 wr x) rfl (by omega) HRO1.out).mono ?_
          rintro e w5 ⟨zb, ab, cb, hzb, rfl, ho5, hb5⟩
          have hbz : ∀ q ∈ zb, q ∈ zs := fun q hq => (HMEM.out q).2 (Reached.mono (fun r hr h0 => by simp at hr; subst hr; exact .root HXR.out h0) ((hzb.mem HV.out.fields HRO1.out).1 hq))
          have hbl : zb.length ≤ 400 := Nat.le_trans hzb.length hl4
          have HBZ := Lib.hide hbz
          have HIB := Lib.hide ho5.reads.2
          clear hzb ho5 hbz
          go_wp2_with (go_at_call 27; refine (contains_any az zs.length cz zs x _ (HIZ.out.below (by repeat (first | exact Below.refl _ _ | assumption | refine Below.drew ?_ | refine below_drewN ?_ _ | refine Below.allocs ?_ | refine Below.next ?_ (by assumption) | refine Below.setCell ?_ (by dsimp only; omega) _))) rfl (by omega) true HXZ.out).mono ?_; rintro e w6 ⟨rfl, rfl⟩)
          go_loopw [116] (fun u wq => ∃ j : Nat, j ≤ zb.length ∧ u = .int .i64 j ∧ Below w5.heap.size w5 wq) (fun u _ => zb.length - (intOf u).toNat)
          case atStart => exact ⟨0, Nat.zero_le _, rfl, (by repeat (first | exact Below.refl _ _ | assumption | refine Below.drew ?_ | refine below_drewN ?_ _ | refine Below.allocs ?_ | refine Below.next ?_ (by assumption) | refine Below.setCell ?_ (by dsimp only; omega) _))⟩
          case round =>
            obtain ⟨j, hj, rfl, hbo⟩ := hrel
            by_cases hjf : j < zb.length
            · obtain ⟨bb, ob, hab, hbb, hcb⟩ := (HIB.out.below hbo).at (by omega)
              subst hab
              have e3 := hcb j hjf
              have hyz := HBZ.out _ (mem_getD hjf)
              generalize zb.getD j 0 = y at e3 hyz
              have HYZ := Lib.hide (decide_eq_true hyz)
              clear hcb hyz
              go_wp2_with (go_at_call 27; refine (contains_any az zs.length cz zs y _ (HIZ.out.below (by repeat (first | exact Below.refl _ _ | assumption | refine Below.drew ?_ | refine below_drewN ?_ _ | refine Below.allocs ?_ | refine Below.next ?_ (by assumption) | refine Below.setCell ?_ (by dsimp only; omega) _))) rfl (by omega) true HYZ.out).mono ?_; rintro e w6 ⟨rfl, rfl⟩)
              go_roundw
              case rel => exact ⟨j + 1, by omega, by go_num, (by repeat (first | exact Below.refl _ _ | assumption | refine Below.drew ?_ | refine below_drewN ?_ _ | refine Below.allocs ?_ | refine Below.next ?_ (by assumption) | refine Below.setCell ?_ (by dsimp only; omega) _))⟩
              case measure => simp [intOf]; omega
            · go_wp2
              go_roundw
              case rel => exact ⟨i + 1, by omega, by go_num, (by repeat (first | exact Below.refl _ _ | assumption | refine Below.drew ?_ | refine below_drewN ?_ _ | refine Below.allocs ?_ | refine Below.next ?_ (by assumption) | refine Below.setCell ?_ (by dsimp only; omega) _))⟩
              case measure => simp [intOf]; omega
        · go_wp2_with fail
          refine (reach_yes (some ⟨b, o, none⟩) 300 c xs t l az zs.length cz zs _ (HHP4.out.below (by repeat (first | exact Below.refl _ _ | assumption | refine Below.drew ?_ | refine below_drewN ?_ _ | refine Below.allocs ?_ | refine Below.next ?_ (by assumption) | refine Below.setCell ?_ (by dsimp only; omega) _))) HV.out (HIZ.out.below (by repeat (first | exact Below.refl _ _ | assumption | refine Below.drew ?_ | refine below_drewN ?_ _ | refine Below.allocs ?_ | refine Below.next ?_ (by assumption) | refine Below.setCell ?_ (by dsimp only; omega) _))) rfl (by omega) (fun x hx => .inr (HZL.out x hx))).mono ?_
          rintro e w5 ⟨zb, ab, cb, hzb, rfl, ho5, hb5⟩
          obtain rfl : zs = zb := HSELF.out.unique hzb
          have HIB := Lib.hide ho5.reads.2
          clear hzb ho5
          go_wp2_with (go_at_call 20; refine (equal_same az ab zs.length cz cb zs _ (HIZ.out.below (by repeat (first | exact Below.refl _ _ | assumption | refine Below.drew ?_ | refine below_drewN ?_ _ | refine Below.allocs ?_ | refine Below.next ?_ (by assumption) | refine Below.setCell ?_ (by dsimp only; omega) _))) HIB.out rfl (by omega)).mono ?_; rintro e w6 ⟨rfl, hb6⟩)
          go_ret
          have hbw := HBW4.out
          exact ⟨rfl, (by repeat (first | exact Below.refl _ _ | assumption | refine Below.drew ?_ | refine below_drewN ?_ _ | refine Below.allocs ?_ | refine Below.next ?_ (by assumption) | refine Below.setCell ?_ (by dsimp only; omega) _))⟩
end Go.Proofs.Ytpdcaoagpjcgbab
