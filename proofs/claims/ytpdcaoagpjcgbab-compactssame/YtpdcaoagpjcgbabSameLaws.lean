/-
  The walk of the law that a compacted heap is isomorphic to the retained objects. It proves no statement by itself.
-/
import Derived.Test.YtpdcaoagpjcgbabMadeWalks
import Derived.Test.YtpdcaoagpjcgbabSameBase
import Derived.Test.YtpdcaoagpjcgbabEqualWalks
set_option linter.unusedVariables false
set_option linter.unusedSimpArgs false
namespace Go.Proofs.Ytpdcaoagpjcgbab
open Go.RowKit

set_option maxHeartbeats 4000000 in
set_option maxRecDepth 100000 in
open Lw in
theorem compactsSame.walk (a0 : Option Addr) (n0 cap0 : Nat) (R0 : Nat → Nat → Int) (hc0 : n0 ≤ cap0) (hm0 : cap0 ≤ maxLen) (a1 : Option Addr) (n1 cap1 : Nat) (R1 : Nat → Nat → Int) (_ : n1 ≤ cap1) (_ : cap1 ≤ maxLen) (w : World) (hR0 : Recs w a0 n0 4 R0) (hR1 : Recs w a1 n1 4 R1) :
    Calls Try.prog 7 #[.slice a0 n0 cap0, .slice a1 n1 cap1] w fun e w' => e = .returned (.bool true) ∧ Below w.heap.size w w' := by
  unfold maxLen at hm0
  have CM := Lib.hide (fun w' (h : Below w.heap.size w w') => made_any a0 n0 cap0 300 R0 w' (hR0.below h) (by omega) (by omega) (by omega))
  have HR1 := Lib.hide hR1
  clear hR0 hR1
  go_enter Try.func7, Try.ntmps7
  go_wp2_with fail
  refine (CM.out _ (by repeat (first | exact Below.refl _ _ | assumption | refine Below.drew ?_ | refine below_drewN ?_ _ | refine Below.allocs ?_ | refine Below.next ?_ (by assumption) | refine Below.setCell ?_ (by dsimp only; omega) _))).mono ?_
  rintro e w1 ⟨a, c, t, xs, l, rfl, ho1, hv, hfit, hb1, ht241⟩
  have HXL := Lib.hide ho1.reads.1
  obtain ⟨b, rfl, hbb1, hbb2, hcx, hfx⟩ := ho1.row (by omega)
  have HHP := Lib.hide (ho1.isHeap (top := t) hfit (fits_small (by omega) (by omega)))
  have HFI := Lib.hide hfit
  have HV := Lib.hide hv
  have HL := Lib.hide (Objects.laid hv.objects)
  have hl4 : l.length ≤ 400 := by
    have := HL.out.short
    rw [Int.toNat_natCast] at this
    omega
  clear ho1 hfit hv CM hbb1 hbb2 hcx hfx
  go_wp2_with fail
  have HBX := Lib.hide (Box2.new w1 (.slice (some ⟨b, 0, none⟩) 300 c) (.int .i64 t) 27)
  have HIS := Lib.hide (HHP.out.below (w' := w1.alloc (.cells #[.slice (some ⟨b, 0, none⟩) 300 c, .int .i64 t] 27)) (by repeat (first | exact Below.refl _ _ | assumption | refine Below.drew ?_ | refine below_drewN ?_ _ | refine Below.allocs ?_ | refine Below.next ?_ (by assumption) | refine Below.setCell ?_ (by dsimp only; omega) _)))
  have hbw : Below w.heap.size w (w1.alloc (.cells #[.slice (some ⟨b, 0, none⟩) 300 c, .int .i64 t] 27)) := (by repeat (first | exact Below.refl _ _ | assumption | refine Below.drew ?_ | refine below_drewN ?_ _ | refine Below.allocs ?_ | refine Below.next ?_ (by assumption) | refine Below.setCell ?_ (by dsimp only; omega) _))
  clear hb1 HHP
  generalize w1.alloc (.cells #[.slice (some ⟨b, 0, none⟩) 300 c, .int .i64 t] 27) = W at HBX HIS hbw ⊢
  generalize w1.heap.size = B at HBX ⊢
  obtain ⟨q0, q1, q2, q3, q4⟩ := HBX.out
  go_region_held3 (fun w' => w'.cell? ⟨B, 0, none⟩ = some (.slice (some ⟨b, 0, none⟩) 300 c) ∧ w'.cell? ⟨B, 1, none⟩ = some (.int .i64 t))
    (first | exact ⟨q0, q1⟩ | exact ⟨r0, r1⟩ | exact ⟨s0, s1⟩ | go_keep | (go_split_ands; refine ⟨?_, ?_⟩ <;> go_simp))
    (first
      | (go_at_call 25; (with_reducible refine (roots_any (some ⟨b, 0, none⟩) 300 c xs t l a1 n1 cap1 R1 _ (HIS.out.below (by repeat (first | exact Below.refl _ _ | assumption | refine Below.drew ?_ | refine below_drewN ?_ _ | refine Below.allocs ?_ | refine Below.next ?_ (by assumption) | refine Below.setCell ?_ (by dsimp only; omega) _))) HV.out (HR1.out.below (by repeat (first | exact Below.refl _ _ | assumption | refine Below.drew ?_ | refine below_drewN ?_ _ | refine Below.allocs ?_ | refine Below.next ?_ (by assumption) | refine Below.setCell ?_ (by dsimp only; omega) _)))).mono ?_); rintro e w2 ⟨rs, ar, cr, rfl, ho2, hrm, hr3, hb2⟩; have HRO := Lib.hide (show RootsOk (nums l) rs from fun x hx => .inr (hrm x hx)); have HIR := Lib.hide ho2.reads.2; have HB2 := Lib.hide (HBX.out.next (w' := w2) (by repeat (first | exact Below.refl _ _ | assumption | refine Below.drew ?_ | refine below_drewN ?_ _ | refine Below.allocs ?_ | refine Below.next ?_ (by assumption) | refine Below.setCell ?_ (by dsimp only; omega) _))); obtain ⟨r0, r1, r2, r3, r4⟩ := HB2.out; clear ho2 hrm)
      | (go_at_call 24; (with_reducible refine (reach_keeps (some ⟨b, 0, none⟩) 300 c xs t l ar rs.length cr rs _ (HIS.out.below (by repeat (first | exact Below.refl _ _ | assumption | refine Below.drew ?_ | refine below_drewN ?_ _ | refine Below.allocs ?_ | refine Below.next ?_ (by assumption) | refine Below.setCell ?_ (by dsimp only; omega) _))) HV.out (HIR.out.below (by repeat (first | exact Below.refl _ _ | assumption | refine Below.drew ?_ | refine below_drewN ?_ _ | refine Below.allocs ?_ | refine Below.next ?_ (by assumption) | refine Below.setCell ?_ (by dsimp only; omega) _))) rfl (by omega) HRO.out).mono ?_); rintro e w3 ⟨qs, az, cz, hkq, hcl, rfl, hiz, hb3⟩; have HKQ := Lib.hide hkq; have HCL := Lib.hide hcl; have HIZ := Lib.hide hiz; have HB3 := Lib.hide (HB2.out.next (w' := w3) (by repeat (first | exact Below.refl _ _ | assumption | refine Below.drew ?_ | refine below_drewN ?_ _ | refine Below.allocs ?_ | refine Below.next ?_ (by assumption) | refine Below.setCell ?_ (by dsimp only; omega) _))); obtain ⟨s0, s1, s2, s3, s4⟩ := HB3.out; clear hkq hcl hiz))
  go_wp2_with fail
  have HHW3 := Lib.hide (HIS.out.below (w' := w3) (by repeat (first | exact Below.refl _ _ | assumption | refine Below.drew ?_ | refine below_drewN ?_ _ | refine Below.allocs ?_ | refine Below.next ?_ (by assumption) | refine Below.setCell ?_ (by dsimp only; omega) _)))
  have hbw3 : Below w.heap.size w w3 := (by repeat (first | exact Below.refl _ _ | assumption | refine Below.drew ?_ | refine below_drewN ?_ _ | refine Below.allocs ?_ | refine Below.next ?_ (by assumption) | refine Below.setCell ?_ (by dsimp only; omega) _))
  clear q0 q1 q2 q3 q4 r0 r1 r2 r3 r4 s0 s1 s2 s3 s4
  clear HIS HBX HB2 HRO HIR HR1 hb2 hb3 hbw hr3
  refine (compact_yes (some ⟨b, 0, none⟩) 300 c xs t l qs az qs.length cz _ (HHW3.out.below (by repeat (first | exact Below.refl _ _ | assumption | refine Below.drew ?_ | refine below_drewN ?_ _ | refine Below.allocs ?_ | refine Below.next ?_ (by assumption) | refine Below.setCell ?_ (by dsimp only; omega) _))) HV.out (HIZ.out.below (by repeat (first | exact Below.refl _ _ | assumption | refine Below.drew ?_ | refine below_drewN ?_ _ | refine Below.allocs ?_ | refine Below.next ?_ (by assumption) | refine Below.setCell ?_ (by dsimp only; omega) _))) rfl HKQ.out HCL.out).mono ?_
  rintro e w4 ⟨ac, cc, am, cm, m, hde, rfl, ho4, hom, hb4⟩
  have hro : Room xs t l qs := by
    have := Room.of HV.out.objects HKQ.out
    rwa [Int.toNat_natCast] at this
  have ht1 : 1 ≤ t := by have := HV.out.top1; omega
  have htx : t ≤ xs.length := by rw [HXL.out]; omega
  have hfy := built_fits hde hro ht1 (by omega) HFI.out 300
  have hvy := valid_built HV.out HKQ.out hde HCL.out HXL.out
  have hag := fun m2 => valid_again HV.out HKQ.out hde HCL.out HXL.out (m2 := m2)
  have hTle := hro.end_le ht1 qs.length (Nat.le_refl _)
  have hqs : qs.length ≤ 400 := by have := kept_length HKQ.out HL.out; rw [Int.toNat_natCast] at this; omega
  obtain ⟨g, rfl, hg1, hg2, hg3, hg4⟩ := ho4.row (by omega)
  have hhc := ho4.isHeap (top := ((toAt xs qs qs.length : Nat) : Int)) hfy (fits_small (by omega) (by omega))
  have HMV := Lib.hide (show Moves w4 am (planOf xs qs qs.length) by obtain ⟨_, _, h1, h2⟩ := hom.shape; injection h1 with h1; subst h1; exact h2)
  have hst := fun i (hi : i < qs.length) => hro.built_state htx 300 m hi
  have hln := fun i (hi : i < qs.length) => hro.built_len htx 300 m hi
  have hfd := fun i k (hi : i < qs.length) hk => hro.built_field htx 300 m (i := i) (k := k) hi hk
  have htb := fun i (hi : i ≤ qs.length) => hro.toAt_built htx 300 m i hi
  obtain ⟨ys, hys⟩ : ∃ ys, built 300 xs m qs qs.length = ys := ⟨_, rfl⟩
  rw [hys] at hvy hag hhc hst hln hfd htb
  have HTB := Lib.hide htb
  clear htb
  obtain ⟨T, hT⟩ : ∃ T, toAt xs qs qs.length = T := ⟨_, rfl⟩
  rw [hT] at hvy hhc hTle
  rw [hT]
  have HT := Lib.hide hT
  have HRO := Lib.hide hro
  have HDE := Lib.hide hde
  have HVY := Lib.hide hvy
  have HAG := Lib.hide hag
  have HHC := Lib.hide hhc
  have HST := Lib.hide hst
  have HLN := Lib.hide hln
  have HFD := Lib.hide hfd
  have HHW4 := Lib.hide (HHW3.out.below (w' := w4) (by repeat (first | exact Below.refl _ _ | assumption | refine Below.drew ?_ | refine below_drewN ?_ _ | refine Below.allocs ?_ | refine Below.next ?_ (by assumption) | refine Below.setCell ?_ (by dsimp only; omega) _)))
  have HIZ4 := Lib.hide (HIZ.out.below (w' := w4) (by repeat (first | exact Below.refl _ _ | assumption | refine Below.drew ?_ | refine below_drewN ?_ _ | refine Below.allocs ?_ | refine Below.next ?_ (by assumption) | refine Below.setCell ?_ (by dsimp only; omega) _)))
  have HB4 := Lib.hide (HB3.out.next (w' := w4) (by repeat (first | exact Below.refl _ _ | assumption | refine Below.drew ?_ | refine below_drewN ?_ _ | refine Below.allocs ?_ | refine Below.next ?_ (by assumption) | refine Below.setCell ?_ (by dsimp only; omega) _)))
  have hbw4 : Below w.heap.size w w4 := (by repeat (first | exact Below.refl _ _ | assumption | refine Below.drew ?_ | refine below_drewN ?_ _ | refine Below.allocs ?_ | refine Below.next ?_ (by assumption) | refine Below.setCell ?_ (by dsimp only; omega) _))
  clear hT hro hde hvy hag hhc hst hln hfd hfy ho4 hom hg1 hg2 hg3 hg4 hys HHW3 HIZ HB3 hb4 hbw3 HFI
  have hmm := @run_makeMap Try.prog
  have hd0 : (((qs.length : Nat) : Int) != ((qs.length : Nat) : Int)) = false := by simp
  go_wp2_with (go_at_call 21; refine (check_yes (some ⟨g, 0, none⟩) 300 cc ys T (destOf xs qs) _ (HHC.out.below (by repeat (first | exact Below.refl _ _ | assumption | refine Below.drew ?_ | refine below_drewN ?_ _ | refine Below.allocs ?_ | refine Below.next ?_ (by assumption) | refine Below.setCell ?_ (by dsimp only; omega) _))) HVY.out).mono ?_; rintro e w5 ⟨rfl, hb5⟩; have hmade := MapI.made w5; obtain ⟨w6, hrun6, hmap6, hg6⟩ := hmade.put (x := 0) (v := 0) (by unfold maxLen; omega) (fits_small (by omega) (by omega)) (fits_small (by omega) (by omega)); have HMAP6 := Lib.hide hmap6; have HG6 := Lib.hide hg6; clear hmade hmap6 hg6)
  have HCTX : SameCtx w5 B w4.heap.size b 0 c g cc t T xs ys az am qs := ⟨HB4.out.next (by repeat (first | exact Below.refl _ _ | assumption | refine Below.drew ?_ | refine below_drewN ?_ _ | refine Below.allocs ?_ | refine Below.next ?_ (by assumption) | refine Below.setCell ?_ (by dsimp only; omega) _)), (Box2.new w4 _ _ _).next hb5, HHW4.out.below (by repeat (first | exact Below.refl _ _ | assumption | refine Below.drew ?_ | refine below_drewN ?_ _ | refine Below.allocs ?_ | refine Below.next ?_ (by assumption) | refine Below.setCell ?_ (by dsimp only; omega) _)), HHC.out.below (by repeat (first | exact Below.refl _ _ | assumption | refine Below.drew ?_ | refine below_drewN ?_ _ | refine Below.allocs ?_ | refine Below.next ?_ (by assumption) | refine Below.setCell ?_ (by dsimp only; omega) _)), HIZ4.out.below (by repeat (first | exact Below.refl _ _ | assumption | refine Below.drew ?_ | refine below_drewN ?_ _ | refine Below.allocs ?_ | refine Below.next ?_ (by assumption) | refine Below.setCell ?_ (by dsimp only; omega) _)), HMV.out.below (by repeat (first | exact Below.refl _ _ | assumption | refine Below.drew ?_ | refine below_drewN ?_ _ | refine Below.allocs ?_ | refine Below.next ?_ (by assumption) | refine Below.setCell ?_ (by dsimp only; omega) _))⟩
  have hbw5 : Below w.heap.size w w5 := (by repeat (first | exact Below.refl _ _ | assumption | refine Below.drew ?_ | refine below_drewN ?_ _ | refine Below.allocs ?_ | refine Below.next ?_ (by assumption) | refine Below.setCell ?_ (by dsimp only; omega) _))
  have hb56 : Below w5.heap.size w5 w6 := Below.grown (w := w5.alloc (.map #[] 0)) (by repeat (first | exact Below.refl _ _ | assumption | refine Below.drew ?_ | refine below_drewN ?_ _ | refine Below.allocs ?_ | refine Below.next ?_ (by assumption) | refine Below.setCell ?_ (by dsimp only; omega) _)) HG6.out (by simp) (fun k hk => by have := Option.some.inj hk; omega)
  have CTX := Lib.hide HCTX
  clear HCTX HHW4 HIZ4 HB4 HHC HMV HG6 hb5 hbw4
  generalize w4.heap.size = C at CTX ⊢
  clear hmm hd0
  go_loopg [12, 64] qs.length (fun q v u wr => ∃ (j : Nat) (m' : Int → Option Int), j ≤ qs.length ∧ q = qs.length - j ∧ v = .int .i64 (toAt xs qs j) ∧ u = .int .i64 j ∧ Dest xs qs j m' ∧ MapI wr w5.heap.size (j + 1) m' ∧ Below w5.heap.size w5 wr)
  case atStart => exact ⟨0, _, Nat.zero_le _, rfl, by rw [toAt_zero]; rfl, rfl, Dest.start xs qs, HMAP6.out, hb56⟩
  case round =>
    clear HMAP6 hb56
    obtain ⟨j, m', hj, rfl, rfl, rfl, hdj, hmap, hbel⟩ := hrel
    have HDJ := Lib.hide hdj
    have HMAP := Lib.hide hmap
    have hctx := CTX.out.next hbel
    obtain ⟨x0, x1, x2, x3, x4⟩ := hctx.bh
    clear hdj hmap
    by_cases hlt : j < qs.length
    · obtain ⟨b2, o2, ham, hb2, hc2⟩ := hctx.mv.at (by rw [planOf_length]; omega)
      subst ham
      have e0 := (hc2 j (by rw [planOf_length]; exact hlt)).1
      have e1 := (hc2 j (by rw [planOf_length]; exact hlt)).2
      rw [planOf_getD hlt] at e0 e1
      dsimp only at e0 e1
      obtain ⟨b3, o3, haz, hb3, hc3⟩ := hctx.ik.at (by rw [nums_length]; omega)
      subst haz
      have e2 := hc3 j (by rw [nums_length]; exact hlt)
      rw [nums_getD] at e2
      have hfit := HRO.out.fit (getD_mem (qs := qs) hlt)
      have htj := HRO.out.end_le ht1 (j + 1) (by omega)
      have hts := toAt_succ (xs := xs) hlt
      have hds := HDJ.out.step hlt HRO.out.kept.sorted (by omega)
      have e3 := (hctx.hh.cell (i := qs.getD j 0 + 1) (by omega)).2
      have hbB := (hctx.hh.cell (i := qs.getD j 0 + 1) (by omega)).1
      rw [hfit.2.2.2, Nat.zero_add] at e3
      obtain ⟨p, hp⟩ : ∃ p, qs.getD j 0 = p := ⟨_, rfl⟩
      obtain ⟨tj, htj'⟩ : ∃ tj, toAt xs qs j = tj := ⟨_, rfl⟩
      rw [hp] at e0 e2 e3 hfit hds hts
      rw [htj'] at e1 hds hts
      rw [htj']
      obtain ⟨f, hf⟩ : ∃ f, lenAt xs p = f := ⟨_, rfl⟩
      rw [hf] at e3 hfit hts
      obtain ⟨f1, f2, f3, f4⟩ := hfit
      rw [hts] at htj
      have HTS := Lib.hide hts
      have HF4 := Lib.hide f4
      have HDS := Lib.hide hds
      have hd1 : ((p : Int) != (p : Int)) = false := by simp
      have hd2 : ((tj : Int) != (tj : Int)) = false := by simp
      clear hp htj' hf hds hts f4 hc2 hc3 hctx
      go_wp2_with fail
      go_quiet (fail)
      have hbq : Below wr.heap.size wr ((wr.alloc (.cells #[.int .i64 p, .int .i64 tj] 57)).drewN nq) := (by repeat (first | exact Below.refl _ _ | assumption | refine Below.drew ?_ | refine below_drewN ?_ _ | refine Below.allocs ?_ | refine Below.next ?_ (by assumption) | refine Below.setCell ?_ (by dsimp only; omega) _))
      have hbx := (Box2.new wr (.int .i64 p) (.int .i64 tj) 57).next (w' := (wr.alloc (.cells #[.int .i64 p, .int .i64 tj] 57)).drewN nq) (by repeat (first | exact Below.refl _ _ | assumption | refine Below.drew ?_ | refine below_drewN ?_ _ | refine Below.allocs ?_ | refine Below.next ?_ (by assumption) | refine Below.setCell ?_ (by dsimp only; omega) _))
      have hMl := HMAP.out.lt
      obtain ⟨w7, hrun7, hmap7, hg7⟩ := (HMAP.out.kept (hbq.block _ hMl)).put (x := p) (v := tj) (by unfold maxLen; omega) (fits_small (by omega) (by omega)) (fits_small (by omega) (by omega))
      have hbx7 := hbx.kept (hg7.block _ hbx.lt (fun e => by have := Option.some.inj e; omega)) hg7.size
      have hbel7 : Below w5.heap.size w5 w7 := Below.grown (Below.next hbel hbq) hg7 (Nat.le_trans hbel.size hbq.size) (fun k hk => by have := Option.some.inj hk; omega)
      have hctx7 := CTX.out.next hbel7
      obtain ⟨y0, y1, y2, y3, y4⟩ := hctx7.bh
      obtain ⟨z0, z1, z2, z3, z4⟩ := hbx7
      have e4 := (hctx7.hh.cell (i := p + 1) (by omega)).2
      rw [HF4.out, Nat.zero_add] at e4
      have HMAP7 := Lib.hide hmap7
      have HBEL7 := Lib.hide hbel7
      obtain ⟨h0, h1, h2, h3, h4⟩ := hbx
      clear hmap7 hbel7 hg7 hctx7 hbq hbel
      go_wp2_with fail
      go_roundg (qs.length - (j + 1))
      case measure => omega
      case rel => exact ⟨j + 1, _, by omega, rfl, by rw [HTS.out]; go_num, by go_num, HDS.out, HMAP7.out, HBEL7.out⟩
    · obtain rfl : j = qs.length := by omega
      obtain rfl : m = m' := HDE.out.unique HDJ.out
      rw [HT.out]
      clear x0 x1 x2 x3 x4 hctx HDJ hj
      go_wp2_with fail
      obtain ⟨wo, hwo⟩ : ∃ wo : World, wo = wr := ⟨_, rfl⟩
      subst hwo
      go_loopw [100] (fun u wq => ∃ i : Nat, i ≤ qs.length ∧ u = .int .i64 i ∧ Below wo.heap.size wo wq) (fun u _ => qs.length - (intOf u).toNat)
      case atStart => exact ⟨0, Nat.zero_le _, rfl, Below.refl _ _⟩
      case round =>
        obtain ⟨i, hi, rfl, hbo⟩ := hrel
        have hb5o : Below w5.heap.size w5 wr := Below.next hbel hbo
        have HMO := Lib.hide (HMAP.out.kept (hbo.block _ HMAP.out.lt))
        have hctx := CTX.out.next hb5o
        obtain ⟨x0, x1, x2, x3, x4⟩ := hctx.bh
        obtain ⟨y0, y1, y2, y3, y4⟩ := hctx.bc
        by_cases hlt : i < qs.length
        · obtain ⟨b2, o2, ham, hb2, hc2⟩ := hctx.mv.at (by rw [planOf_length]; omega)
          subst ham
          have e0 := (hc2 i (by rw [planOf_length]; exact hlt)).1
          have e1 := (hc2 i (by rw [planOf_length]; exact hlt)).2
          rw [planOf_getD hlt] at e0 e1
          dsimp only at e0 e1
          have hfit := HRO.out.fit (getD_mem (qs := qs) hlt)
          have hti := HRO.out.end_le ht1 (i + 1) (by omega)
          rw [toAt_succ hlt] at hti
          have eh0 := (hctx.hh.cell (i := qs.getD i 0) (by omega)).2
          have eh1 := (hctx.hh.cell (i := qs.getD i 0 + 1) (by omega)).2
          have ec0 := (hctx.hc.cell (i := toAt xs qs i) (by omega)).2
          have ec1 := (hctx.hc.cell (i := toAt xs qs i + 1) (by omega)).2
          have hbB := (hctx.hh.cell (i := 0) (by omega)).1
          have hgB := (hctx.hc.cell (i := 0) (by omega)).1
          rw [HST.out i hlt] at ec0
          rw [HLN.out i hlt, hfit.2.2.2] at ec1
          rw [hfit.2.2.2] at eh1
          rw [Nat.zero_add] at eh0 eh1 ec0 ec1
          have hfd := fun k => HFD.out i k hlt
          have hpl := HKQ.out.sub _ (getD_mem (qs := qs) hlt)
          have htd := mem_destOf.2 ⟨i, hlt, (rfl : toAt xs qs i = toAt xs qs i)⟩
          have hln := HLN.out i hlt
          have hrc := fun k => redir_cases HDE.out HCL.out hlt (k := k)
          obtain ⟨p, hp⟩ : ∃ p, qs.getD i 0 = p := ⟨_, rfl⟩
          obtain ⟨ti, hti'⟩ : ∃ ti, toAt xs qs i = ti := ⟨_, rfl⟩
          rw [hp] at e0 eh0 eh1 ec0 hfit hpl hln hti
          rw [hti'] at e1 ec0 ec1 htd hln hti
          simp only [hp, hti'] at hfd hrc
          obtain ⟨f, hf⟩ : ∃ f, lenAt xs p = f := ⟨_, rfl⟩
          rw [hf] at eh1 hfit hti
          rw [hp, hf] at ec1
          simp only [hf] at hfd
          obtain ⟨f1, f2, f3, f4⟩ := hfit
          rw [f4] at hln
          obtain ⟨sv, hsv⟩ : ∃ sv, xs.getD p 0 = sv := ⟨_, rfl⟩
          rw [hsv] at eh0 ec0
          have hd1 : (sv != sv) = false := by simp
          have hd2 : ((f : Int) != (f : Int)) = false := by simp
          have HF4 := Lib.hide f4
          have HLI := Lib.hide hln
          have HFI := Lib.hide hfd
          have HRC := Lib.hide hrc
          have HPL := Lib.hide hpl
          have HTD := Lib.hide htd
          clear hp hti' hf hsv f4 hln hfd hrc hpl htd hc2 hctx
          go_wp2_with fail
          go_quiet (fail)
          have hb5q : Below w5.heap.size w5 ((wr.alloc (.cells #[.int .i64 p, .int .i64 ti] 57)).drewN nq) := (by repeat (first | exact Below.refl _ _ | assumption | refine Below.drew ?_ | refine below_drewN ?_ _ | refine Below.allocs ?_ | refine Below.next ?_ (by assumption) | refine Below.setCell ?_ (by dsimp only; omega) _))
          have hboq : Below wo.heap.size wo ((wr.alloc (.cells #[.int .i64 p, .int .i64 ti] 57)).drewN nq) := (by repeat (first | exact Below.refl _ _ | assumption | refine Below.drew ?_ | refine below_drewN ?_ _ | refine Below.allocs ?_ | refine Below.next ?_ (by assumption) | refine Below.setCell ?_ (by dsimp only; omega) _))
          have hbx := (Box2.new wr (.int .i64 p) (.int .i64 ti) 57).next (w' := (wr.alloc (.cells #[.int .i64 p, .int .i64 ti] 57)).drewN nq) (by repeat (first | exact Below.refl _ _ | assumption | refine Below.drew ?_ | refine below_drewN ?_ _ | refine Below.allocs ?_ | refine Below.next ?_ (by assumption) | refine Below.setCell ?_ (by dsimp only; omega) _))
          have HMQ := Lib.hide (HMAP.out.kept (hboq.block _ HMAP.out.lt))
          clear hbo hb5o HMO
          have hctxq := CTX.out.next hb5q
          obtain ⟨r0, r1, r2, r3, r4⟩ := hctxq.bh
          have eq1 := (hctxq.hh.cell (i := p + 1) (by omega)).2
          rw [HF4.out, Nat.zero_add] at eq1
          have HBX := Lib.hide hbx
          obtain ⟨h0, h1, h2, h3, h4⟩ := hbx
          clear hctxq x0 x1 x2 x3 x4 y0 y1 y2 y3 y4 e0 e1 eh0 eh1 ec0 ec1 hb2 hbB hgB
          generalize (wr.alloc (.cells #[.int .i64 p, .int .i64 ti] 57)).drewN nq = Wq at *
          generalize wr.heap.size = X at *
          go_wp2_with fail
          go_loopw [141] (fun u wz => ∃ k : Nat, k ≤ f ∧ u = .int .i64 k ∧ Below Wq.heap.size Wq wz) (fun u _ => f - (intOf u).toNat)
          case atStart => exact ⟨0, Nat.zero_le _, rfl, Below.refl _ _⟩
          case round =>
            clear r0 r1 r2 r3 r4 eq1 h0 h1 h2 h3 h4
            obtain ⟨k, hk, rfl, hbz⟩ := hrel
            have hb5z : Below w5.heap.size w5 wr := Below.next hb5q hbz
            have HMZ := Lib.hide (HMQ.out.kept (hbz.block _ HMQ.out.lt))
            have HCZ := Lib.hide (CTX.out.next hb5z)
            obtain ⟨x0, x1, x2, x3, x4⟩ := HCZ.out.bh
            obtain ⟨y0, y1, y2, y3, y4⟩ := HCZ.out.bc
            obtain ⟨z0, z1, z2, z3, z4⟩ := HBX.out.next hbz
            by_cases hkf : k < f
            · obtain ⟨y, hy⟩ : ∃ y, xs.getD (p + 2 + k) 0 = y := ⟨_, rfl⟩
              have hzy := HFI.out k hkf
              have hrc := HRC.out k (by rw [HF4.out]; omega) y hy
              rw [hy] at hzy
              have CL1 := Lib.hide (fun W (hb : Below wr.heap.size wr W) => load_yes (some ⟨b, 0, none⟩) 300 c xs t p k l W (HCZ.out.hh.below hb) HV.out ⟨mem_nums.2 HPL.out, by omega, by rw [Int.toNat_natCast, HF4.out]; omega⟩ y (by rw [Int.toNat_natCast, Int.toNat_natCast]; exact hy))
              have CL2 := Lib.hide (fun W (hb : Below wr.heap.size wr W) => load_yes (some ⟨g, 0, none⟩) 300 cc ys T ti k (destOf xs qs) W (HCZ.out.hc.below hb) HVY.out ⟨mem_nums.2 HTD.out, by omega, by rw [Int.toNat_natCast, HLI.out]; omega⟩ (redir m y) (by rw [Int.toNat_natCast, Int.toNat_natCast]; exact hzy))
              have hyf : Fits (y / 2) := by
                have := fits_get HCZ.out.hh.fits (i := p + 2 + k) (by rw [HXL.out]; omega)
                rw [hy] at this
                obtain ⟨h1, h2⟩ := this
                exact ⟨by omega, by omega⟩
              clear hy hzy
              rcases Int.emod_two_eq y with hpar | hpar
              · have hre : redir m y = y := by unfold redir; rw [if_neg (by omega)]
                rw [hre] at CL2
                obtain ⟨kk, hkk⟩ : ∃ kk, y % 2 = kk := ⟨_, rfl⟩
                obtain ⟨mm, hmm⟩ : ∃ mm, y / 2 = mm := ⟨_, rfl⟩
                rw [hkk, hmm] at CL1 CL2
                have hk1 : (kk == 1) = false := by rw [← hkk, hpar]; rfl
                clear hkk hmm hrc hpar hre hyf
                go_wp2_with (first
                  | (go_at_call 19; (with_reducible refine (CL1.out _ (by repeat (first | exact Below.refl _ _ | assumption | refine Below.drew ?_ | refine below_drewN ?_ _ | refine Below.allocs ?_ | refine Below.next ?_ (by assumption) | refine Below.setCell ?_ (by dsimp only; omega) _))).mono ?_); rintro e w8 ⟨rfl, hb8⟩; obtain ⟨v0, v1, v2, v3, v4⟩ := (HCZ.out.bc.next hb8).alloc (.cells #[.int .i64 kk, .int .i64 mm] 34); obtain ⟨t0, t1, t2, t3, t4⟩ := (HBX.out.next (Below.next hbz hb8)))
                  | (go_at_call 19; (with_reducible refine (CL2.out _ (by repeat (first | exact Below.refl _ _ | assumption | refine Below.drew ?_ | refine below_drewN ?_ _ | refine Below.allocs ?_ | refine Below.next ?_ (by assumption) | refine Below.setCell ?_ (by dsimp only; omega) _))).mono ?_); rintro e w9 ⟨rfl, hb9⟩; obtain ⟨p0, p1, p2, p3, p4⟩ := (Box2.new w8 (.int .i64 kk) (.int .i64 mm) 34).next hb9))
                go_roundw
                case rel => exact ⟨k + 1, by omega, by go_num, (by repeat (first | exact Below.refl _ _ | assumption | refine Below.drew ?_ | refine below_drewN ?_ _ | refine Below.allocs ?_ | refine Below.next ?_ (by assumption) | refine Below.setCell ?_ (by dsimp only; omega) _))⟩
                case measure => simp [intOf]; omega
              · obtain ⟨mm, hmm⟩ : ∃ mm, y / 2 = mm := ⟨_, rfl⟩
                obtain ⟨r, hr⟩ : ∃ r, (m (y / 2)).getD 0 = r := ⟨_, rfl⟩
                have hre : redir m y = 2 * r + 1 := by unfold redir; rw [if_pos hpar, hr]
                rw [hre, show (2 * r + 1) % 2 = 1 by omega, show (2 * r + 1) / 2 = r by omega] at CL2
                rw [hpar, hmm] at CL1
                rw [hmm] at hr hyf
                have HR := Lib.hide hr
                have HYF := Lib.hide hyf
                clear hmm hrc hpar hre hyf hr
                go_wp2_with (first
                  | (go_at_call 19; (with_reducible refine (CL1.out _ (by repeat (first | exact Below.refl _ _ | assumption | refine Below.drew ?_ | refine below_drewN ?_ _ | refine Below.allocs ?_ | refine Below.next ?_ (by assumption) | refine Below.setCell ?_ (by dsimp only; omega) _))).mono ?_); rintro e w8 ⟨rfl, hb8⟩; obtain ⟨v0, v1, v2, v3, v4⟩ := (HCZ.out.bc.next hb8).alloc (.cells #[.int .i64 1, .int .i64 mm] 34); obtain ⟨t0, t1, t2, t3, t4⟩ := (HBX.out.next (Below.next hbz hb8)))
                  | (go_at_call 19; (with_reducible refine (CL2.out _ (by repeat (first | exact Below.refl _ _ | assumption | refine Below.drew ?_ | refine below_drewN ?_ _ | refine Below.allocs ?_ | refine Below.next ?_ (by assumption) | refine Below.setCell ?_ (by dsimp only; omega) _))).mono ?_); rintro e w9 ⟨rfl, hb9⟩; obtain ⟨p0, p1, p2, p3, p4⟩ := (Box2.new w8 (.int .i64 1) (.int .i64 mm) 34).next hb9; have hbb : Below wr.heap.size wr (w9.alloc (.cells #[.int .i64 1, .int .i64 r] 34)) := (by repeat (first | exact Below.refl _ _ | assumption | refine Below.drew ?_ | refine below_drewN ?_ _ | refine Below.allocs ?_ | refine Below.next ?_ (by assumption) | refine Below.setCell ?_ (by dsimp only; omega) _)); have hlk := (HMZ.out.kept (hbb.block _ HMZ.out.lt)).look HYF.out r HR.out; clear hbb))
                go_roundw
                case rel =>
                  have hs8 := hb8.size
                  have hsz := hbz.size
                  exact ⟨k + 1, by omega, by go_num, (by repeat (first | exact Below.refl _ _ | assumption | refine Below.drew ?_ | refine below_drewN ?_ _ | refine Below.allocs ?_ | refine Below.next ?_ (by assumption) | refine Below.setCell ?_ (by dsimp only; omega) _))⟩
                case measure => simp [intOf]; omega
            · go_wp2
              go_roundw
              case rel => exact ⟨i + 1, by omega, by go_num, Below.next hboq hbz⟩
              case measure => simp [intOf]; omega
        · go_wp2_with fail
          have HCE := Lib.hide hctx
          have hbwr : Below w.heap.size w wr := Below.next hbw5 hb5o
          have HKD := Lib.hide (show Kept (destOf xs qs) (destOf xs qs) from ⟨fun q h => h, (Objects.laid HVY.out.objects).sorted⟩)
          have HCC := Lib.hide (show Closed ys (destOf xs qs) (destOf xs qs).length from fun i hi q hq => Refers.mem HVY.out.fields (getD_mem hi) hq)
          have CP := Lib.hide (fun W' (hb : Below wr.heap.size wr W') => keepPlaces_yes (some ⟨g, 0, none⟩) 300 cc ys T (destOf xs qs) W' (HCE.out.hc.below hb) HVY.out)
          have HYL := Lib.hide HCE.out.hc.len
          have HALL := Lib.hide (show ∀ i, i < (destOf xs qs).length → ((planOf ys (destOf xs qs) (destOf xs qs).length).getD i (0, 0)).1 = ((planOf ys (destOf xs qs) (destOf xs qs).length).getD i (0, 0)).2 from fun i hi => by
            rw [planOf_getD hi]
            rw [destOf_length] at hi
            rw [HTB.out i (by omega), destOf_getD hi])
          have hdT : ((T : Int) == (T : Int)) = true := by simp
          clear hctx hbo hbel hb5o HMO x0 x1 x2 x3 x4
          obtain ⟨WC, hWC⟩ : ∃ WC : World, WC = wr := ⟨_, rfl⟩
          subst hWC
          go_region_held3 (fun w' => w'.cell? ⟨C, 0, none⟩ = some (.slice (some ⟨g, 0, none⟩) 300 cc) ∧ w'.cell? ⟨C, 1, none⟩ = some (.int .i64 T))
            (first | exact ⟨y0, y1⟩ | exact ⟨r0, r1⟩ | exact ⟨s0, s1⟩ | (refine ⟨?_, ?_⟩ <;> go_simp))
            (first
              | (go_at_call 29; (with_reducible refine (CP.out WC.drew (by repeat (first | exact Below.refl _ _ | assumption | refine Below.drew ?_ | refine below_drewN ?_ _ | refine Below.allocs ?_ | refine Below.next ?_ (by assumption) | refine Below.setCell ?_ (by dsimp only; omega) _))).mono ?_); rintro e wA ⟨aA, cA, rfl, hiA, hbA⟩; have HIA := Lib.hide hiA; have HCA := Lib.hide (HCE.out.next (W' := wA) (by repeat (first | exact Below.refl _ _ | assumption | refine Below.drew ?_ | refine below_drewN ?_ _ | refine Below.allocs ?_ | refine Below.next ?_ (by assumption) | refine Below.setCell ?_ (by dsimp only; omega) _))); obtain ⟨r0, r1, r2, r3, r4⟩ := HCA.out.bc; have CK := Lib.hide (fun W' (hb : Below wA.heap.size wA W') => compact_yes (some ⟨g, 0, none⟩) 300 cc ys T (destOf xs qs) (destOf xs qs) aA (destOf xs qs).length cA W' (HCA.out.hc.below hb) HVY.out (HIA.out.below hb) rfl HKD.out HCC.out); clear hiA)
              | (go_at_call 29; (with_reducible refine (CP.out (WC.alloc (.cells #[.slice none 0 0, .int .i64 0] 27)).drew (by repeat (first | exact Below.refl _ _ | assumption | refine Below.drew ?_ | refine below_drewN ?_ _ | refine Below.allocs ?_ | refine Below.next ?_ (by assumption) | refine Below.setCell ?_ (by dsimp only; omega) _))).mono ?_); rintro e wA ⟨aA, cA, rfl, hiA, hbA⟩; have HIA := Lib.hide hiA; have HCA := Lib.hide (HCE.out.next (W' := wA) (by repeat (first | exact Below.refl _ _ | assumption | refine Below.drew ?_ | refine below_drewN ?_ _ | refine Below.allocs ?_ | refine Below.next ?_ (by assumption) | refine Below.setCell ?_ (by dsimp only; omega) _))); obtain ⟨r0, r1, r2, r3, r4⟩ := HCA.out.bc; have CK := Lib.hide (fun W' (hb : Below wA.heap.size wA W') => compact_yes (some ⟨g, 0, none⟩) 300 cc ys T (destOf xs qs) (destOf xs qs) aA (destOf xs qs).length cA W' (HCA.out.hc.below hb) HVY.out (HIA.out.below hb) rfl HKD.out HCC.out); have HZ := Lib.hide (((Box2.new WC (.slice none 0 0) (.int .i64 0) 27).next (w' := (WC.alloc (.cells #[.slice none 0 0, .int .i64 0] 27)).drew) (by repeat (first | exact Below.refl _ _ | assumption | refine Below.drew ?_ | refine below_drewN ?_ _ | refine Below.allocs ?_ | refine Below.next ?_ (by assumption) | refine Below.setCell ?_ (by dsimp only; omega) _))).next hbA); obtain ⟨n0, n1, n2, n3, n4⟩ := HZ.out; clear hiA)
              | (go_at_call 28; (with_reducible refine (CK.out (wA.alloc (.cells #[.slice none 0 0, .int .i64 0] 27)) (by repeat (first | exact Below.refl _ _ | assumption | refine Below.drew ?_ | refine below_drewN ?_ _ | refine Below.allocs ?_ | refine Below.next ?_ (by assumption) | refine Below.setCell ?_ (by dsimp only; omega) _))).mono ?_); rintro e wB ⟨a6, c6, a7, c7, m2, hd2, rfl, ho6, ho7, hb6⟩; rw [HAG.out m2 hd2] at ho6; have HO6 := Lib.hide ho6; have HO7 := Lib.hide ho7; have HCB := Lib.hide (HCA.out.next (W' := wB) (by repeat (first | exact Below.refl _ _ | assumption | refine Below.drew ?_ | refine below_drewN ?_ _ | refine Below.allocs ?_ | refine Below.next ?_ (by assumption) | refine Below.setCell ?_ (by dsimp only; omega) _))); obtain ⟨s0, s1, s2, s3, s4⟩ := HCB.out.bc; clear ho6 ho7 hd2; obtain ⟨m0, m1, m2', m3, m4⟩ := (Box2.new wA (.slice none 0 0) (.int .i64 0) 27).next hb6)
              | (go_at_call 28; (with_reducible refine (CK.out wA (by repeat (first | exact Below.refl _ _ | assumption | refine Below.drew ?_ | refine below_drewN ?_ _ | refine Below.allocs ?_ | refine Below.next ?_ (by assumption) | refine Below.setCell ?_ (by dsimp only; omega) _))).mono ?_); rintro e wB ⟨a6, c6, a7, c7, m2, hd2, rfl, ho6, ho7, hb6⟩; rw [HAG.out m2 hd2] at ho6; have HO6 := Lib.hide ho6; have HO7 := Lib.hide ho7; have HCB := Lib.hide (HCA.out.next (W' := wB) (by repeat (first | exact Below.refl _ _ | assumption | refine Below.drew ?_ | refine below_drewN ?_ _ | refine Below.allocs ?_ | refine Below.next ?_ (by assumption) | refine Below.setCell ?_ (by dsimp only; omega) _))); obtain ⟨s0, s1, s2, s3, s4⟩ := HCB.out.bc; clear ho6 ho7 hd2; obtain ⟨m0, m1, m2', m3, m4⟩ := HZ.out.next hb6)
              | (go_at_call 28; (with_reducible refine (CK.out wA (by repeat (first | exact Below.refl _ _ | assumption | refine Below.drew ?_ | refine below_drewN ?_ _ | refine Below.allocs ?_ | refine Below.next ?_ (by assumption) | refine Below.setCell ?_ (by dsimp only; omega) _))).mono ?_); rintro e wB ⟨a6, c6, a7, c7, m2, hd2, rfl, ho6, ho7, hb6⟩; rw [HAG.out m2 hd2] at ho6; have HO6 := Lib.hide ho6; have HO7 := Lib.hide ho7; have HCB := Lib.hide (HCA.out.next (W' := wB) (by repeat (first | exact Below.refl _ _ | assumption | refine Below.drew ?_ | refine below_drewN ?_ _ | refine Below.allocs ?_ | refine Below.next ?_ (by assumption) | refine Below.setCell ?_ (by dsimp only; omega) _))); obtain ⟨s0, s1, s2, s3, s4⟩ := HCB.out.bc; clear ho6 ho7 hd2))
          all_goals
            have hsA := hbA.size
            have hs6 := hb6.size
            have hsw := hbwr.size
            simp at hsA hs6
          · have hbV : Below w.heap.size w (wB.alloc (.cells #[.slice a6 300 c6, .int .i64 (toAt ys (destOf xs qs) (destOf xs qs).length)] 27)) := (by repeat (first | exact Below.refl _ _ | assumption | refine Below.drew ?_ | refine below_drewN ?_ _ | refine Below.allocs ?_ | refine Below.next ?_ (by assumption) | refine Below.setCell ?_ (by dsimp only; omega) _))
            have HIV := Lib.hide (HO6.out.reads.2.below (w' := (wB.alloc (.cells #[.slice a6 300 c6, .int .i64 (toAt ys (destOf xs qs) (destOf xs qs).length)] 27))) (by repeat (first | exact Below.refl _ _ | assumption | refine Below.drew ?_ | refine below_drewN ?_ _ | refine Below.allocs ?_ | refine Below.next ?_ (by assumption) | refine Below.setCell ?_ (by dsimp only; omega) _)))
            have HGV := Lib.hide (HCB.out.hc.ints.below (w' := (wB.alloc (.cells #[.slice a6 300 c6, .int .i64 (toAt ys (destOf xs qs) (destOf xs qs).length)] 27))) (by repeat (first | exact Below.refl _ _ | assumption | refine Below.drew ?_ | refine below_drewN ?_ _ | refine Below.allocs ?_ | refine Below.next ?_ (by assumption) | refine Below.setCell ?_ (by dsimp only; omega) _)))
            have HMV := Lib.hide ((show Moves wB a7 (planOf ys (destOf xs qs) (destOf xs qs).length) by obtain ⟨_, _, h1, h2⟩ := OwnM.shape (HO7.out); injection h1 with h1; subst h1; exact h2).below (w' := (wB.alloc (.cells #[.slice a6 300 c6, .int .i64 (toAt ys (destOf xs qs) (destOf xs qs).length)] 27))) (by repeat (first | exact Below.refl _ _ | assumption | refine Below.drew ?_ | refine below_drewN ?_ _ | refine Below.allocs ?_ | refine Below.next ?_ (by assumption) | refine Below.setCell ?_ (by dsimp only; omega) _)))
            have hBC := HCB.out.bc.alloc (.cells #[.slice a6 300 c6, .int .i64 (toAt ys (destOf xs qs) (destOf xs qs).length)] 27)
            have hBN := Box2.new wB (.slice a6 300 c6) (.int .i64 (toAt ys (destOf xs qs) (destOf xs qs).length)) 27
            clear hb6 hbA hbwr hsA hs6 hsw
            generalize (wB.alloc (.cells #[.slice a6 300 c6, .int .i64 (toAt ys (destOf xs qs) (destOf xs qs).length)] 27)) = V at hBC hBN HIV HGV HMV hbV ⊢
            obtain ⟨k0, k1, k2, k3, k4⟩ := hBC
            obtain ⟨j0, j1, j2, j3, j4⟩ := hBN
            go_wp2_with (first
              | (go_at_call 20; refine (equal_same a6 (some ⟨g, 0, none⟩) 300 c6 cc ys _ HIV.out HGV.out HYL.out (by omega)).mono ?_; rintro e wE ⟨rfl, hbE⟩)
              | (go_at_call 30; refine (containsMoves_none a7 (destOf xs qs).length c7 (planOf ys (destOf xs qs) (destOf xs qs).length) _ (HMV.out.below (by repeat (first | exact Below.refl _ _ | assumption | refine Below.drew ?_ | refine below_drewN ?_ _ | refine Below.allocs ?_ | refine Below.next ?_ (by assumption) | refine Below.setCell ?_ (by dsimp only; omega) _))) (planOf_length _ _ _) (by rw [destOf_length]; exact hqs) HALL.out).mono ?_; rintro e wF ⟨rfl, hbF⟩))
            go_ret
            exact ⟨rfl, (by repeat (first | exact Below.refl _ _ | assumption | refine Below.drew ?_ | refine below_drewN ?_ _ | refine Below.allocs ?_ | refine Below.next ?_ (by assumption) | refine Below.setCell ?_ (by dsimp only; omega) _))⟩
          · have hbE0 : Below WC.heap.size WC ((wB.setCell ⟨wA.heap.size, 0, none⟩ (.slice a6 300 c6)).setCell ⟨wA.heap.size, 1, none⟩ (.int .i64 (toAt ys (destOf xs qs) (destOf xs qs).length))) := (by repeat (first | exact Below.refl _ _ | assumption | refine Below.drew ?_ | refine below_drewN ?_ _ | refine Below.allocs ?_ | refine Below.next ?_ (by assumption) | refine Below.setCell ?_ (by dsimp only; omega) _))
            have hbV : Below w.heap.size w ((wB.setCell ⟨wA.heap.size, 0, none⟩ (.slice a6 300 c6)).setCell ⟨wA.heap.size, 1, none⟩ (.int .i64 (toAt ys (destOf xs qs) (destOf xs qs).length))) := Below.next hbwr hbE0
            have n6 : (Value.slice a6 300 c6).ownBlock ≠ some wA.heap.size := fun h => by
              have := (World.ownsRow.lt HO6.out _ h).1
              try simp at this
              omega
            have n7 : (Value.slice a7 (destOf xs qs).length c7).ownBlock ≠ some wA.heap.size := fun h => by
              have := (World.ownsRow.lt HO7.out _ h).1
              try simp at this
              omega
            have HIV := Lib.hide (show Ints ((wB.setCell ⟨wA.heap.size, 0, none⟩ (.slice a6 300 c6)).setCell ⟨wA.heap.size, 1, none⟩ (.int .i64 (toAt ys (destOf xs qs) (destOf xs qs).length))) a6 ys from ((HO6.out.far n6 _).far n6 _).reads.2)
            have HGV := Lib.hide (HCE.out.hc.ints.below hbE0)
            have HMV := Lib.hide (show Moves ((wB.setCell ⟨wA.heap.size, 0, none⟩ (.slice a6 300 c6)).setCell ⟨wA.heap.size, 1, none⟩ (.int .i64 (toAt ys (destOf xs qs) (destOf xs qs).length))) a7 (planOf ys (destOf xs qs) (destOf xs qs).length) by obtain ⟨_, _, h1, h2⟩ := OwnM.shape (show OwnM ((wB.setCell ⟨wA.heap.size, 0, none⟩ (.slice a6 300 c6)).setCell ⟨wA.heap.size, 1, none⟩ (.int .i64 (toAt ys (destOf xs qs) (destOf xs qs).length))) _ (.slice a7 (destOf xs qs).length c7) (planOf ys (destOf xs qs) (destOf xs qs).length) from ownsRow_setCell_other (ownsRow_setCell_other HO7.out n7 _) n7 _); injection h1 with h1; subst h1; exact h2)
            have hBC := (HCB.out.bc.far (p := ⟨wA.heap.size, 0, none⟩) (by dsimp only; omega) (.slice a6 300 c6)).far (p := ⟨wA.heap.size, 1, none⟩) (by dsimp only; omega) (.int .i64 (toAt ys (destOf xs qs) (destOf xs qs).length))
            have hBN := ((Box2.new wA (.slice none 0 0) (.int .i64 0) 27).next hb6).put (.slice a6 300 c6) (.int .i64 (toAt ys (destOf xs qs) (destOf xs qs).length))
            clear hbE0 n6 n7
            clear hb6 hbA hbwr hsA hs6 hsw
            generalize ((wB.setCell ⟨wA.heap.size, 0, none⟩ (.slice a6 300 c6)).setCell ⟨wA.heap.size, 1, none⟩ (.int .i64 (toAt ys (destOf xs qs) (destOf xs qs).length))) = V at hBC hBN HIV HGV HMV hbV ⊢
            obtain ⟨k0, k1, k2, k3, k4⟩ := hBC
            obtain ⟨j0, j1, j2, j3, j4⟩ := hBN
            go_wp2_with (first
              | (go_at_call 20; refine (equal_same a6 (some ⟨g, 0, none⟩) 300 c6 cc ys _ HIV.out HGV.out HYL.out (by omega)).mono ?_; rintro e wE ⟨rfl, hbE⟩)
              | (go_at_call 30; refine (containsMoves_none a7 (destOf xs qs).length c7 (planOf ys (destOf xs qs) (destOf xs qs).length) _ (HMV.out.below (by repeat (first | exact Below.refl _ _ | assumption | refine Below.drew ?_ | refine below_drewN ?_ _ | refine Below.allocs ?_ | refine Below.next ?_ (by assumption) | refine Below.setCell ?_ (by dsimp only; omega) _))) (planOf_length _ _ _) (by rw [destOf_length]; exact hqs) HALL.out).mono ?_; rintro e wF ⟨rfl, hbF⟩))
            go_ret
            exact ⟨rfl, (by repeat (first | exact Below.refl _ _ | assumption | refine Below.drew ?_ | refine below_drewN ?_ _ | refine Below.allocs ?_ | refine Below.next ?_ (by assumption) | refine Below.setCell ?_ (by dsimp only; omega) _))⟩
          · have hbE0 : Below WC.heap.size WC ((wB.setCell ⟨WC.heap.size, 0, none⟩ (.slice a6 300 c6)).setCell ⟨WC.heap.size, 1, none⟩ (.int .i64 (toAt ys (destOf xs qs) (destOf xs qs).length))) := (by repeat (first | exact Below.refl _ _ | assumption | refine Below.drew ?_ | refine below_drewN ?_ _ | refine Below.allocs ?_ | refine Below.next ?_ (by assumption) | refine Below.setCell ?_ (by dsimp only; omega) _))
            have hbV : Below w.heap.size w ((wB.setCell ⟨WC.heap.size, 0, none⟩ (.slice a6 300 c6)).setCell ⟨WC.heap.size, 1, none⟩ (.int .i64 (toAt ys (destOf xs qs) (destOf xs qs).length))) := Below.next hbwr hbE0
            have n6 : (Value.slice a6 300 c6).ownBlock ≠ some WC.heap.size := fun h => by
              have := (World.ownsRow.lt HO6.out _ h).1
              try simp at this
              omega
            have n7 : (Value.slice a7 (destOf xs qs).length c7).ownBlock ≠ some WC.heap.size := fun h => by
              have := (World.ownsRow.lt HO7.out _ h).1
              try simp at this
              omega
            have HIV := Lib.hide (show Ints ((wB.setCell ⟨WC.heap.size, 0, none⟩ (.slice a6 300 c6)).setCell ⟨WC.heap.size, 1, none⟩ (.int .i64 (toAt ys (destOf xs qs) (destOf xs qs).length))) a6 ys from ((HO6.out.far n6 _).far n6 _).reads.2)
            have HGV := Lib.hide (HCE.out.hc.ints.below hbE0)
            have HMV := Lib.hide (show Moves ((wB.setCell ⟨WC.heap.size, 0, none⟩ (.slice a6 300 c6)).setCell ⟨WC.heap.size, 1, none⟩ (.int .i64 (toAt ys (destOf xs qs) (destOf xs qs).length))) a7 (planOf ys (destOf xs qs) (destOf xs qs).length) by obtain ⟨_, _, h1, h2⟩ := OwnM.shape (show OwnM ((wB.setCell ⟨WC.heap.size, 0, none⟩ (.slice a6 300 c6)).setCell ⟨WC.heap.size, 1, none⟩ (.int .i64 (toAt ys (destOf xs qs) (destOf xs qs).length))) _ (.slice a7 (destOf xs qs).length c7) (planOf ys (destOf xs qs) (destOf xs qs).length) from ownsRow_setCell_other (ownsRow_setCell_other HO7.out n7 _) n7 _); injection h1 with h1; subst h1; exact h2)
            have hBC := (HCB.out.bc.far (p := ⟨WC.heap.size, 0, none⟩) (by dsimp only; omega) (.slice a6 300 c6)).far (p := ⟨WC.heap.size, 1, none⟩) (by dsimp only; omega) (.int .i64 (toAt ys (destOf xs qs) (destOf xs qs).length))
            have hBN := (HZ.out.next hb6).put (.slice a6 300 c6) (.int .i64 (toAt ys (destOf xs qs) (destOf xs qs).length))
            clear hbE0 n6 n7
            clear hb6 hbA hbwr hsA hs6 hsw
            generalize ((wB.setCell ⟨WC.heap.size, 0, none⟩ (.slice a6 300 c6)).setCell ⟨WC.heap.size, 1, none⟩ (.int .i64 (toAt ys (destOf xs qs) (destOf xs qs).length))) = V at hBC hBN HIV HGV HMV hbV ⊢
            obtain ⟨k0, k1, k2, k3, k4⟩ := hBC
            obtain ⟨j0, j1, j2, j3, j4⟩ := hBN
            go_wp2_with (first
              | (go_at_call 20; refine (equal_same a6 (some ⟨g, 0, none⟩) 300 c6 cc ys _ HIV.out HGV.out HYL.out (by omega)).mono ?_; rintro e wE ⟨rfl, hbE⟩)
              | (go_at_call 30; refine (containsMoves_none a7 (destOf xs qs).length c7 (planOf ys (destOf xs qs) (destOf xs qs).length) _ (HMV.out.below (by repeat (first | exact Below.refl _ _ | assumption | refine Below.drew ?_ | refine below_drewN ?_ _ | refine Below.allocs ?_ | refine Below.next ?_ (by assumption) | refine Below.setCell ?_ (by dsimp only; omega) _))) (planOf_length _ _ _) (by rw [destOf_length]; exact hqs) HALL.out).mono ?_; rintro e wF ⟨rfl, hbF⟩))
            go_ret
            exact ⟨rfl, (by repeat (first | exact Below.refl _ _ | assumption | refine Below.drew ?_ | refine below_drewN ?_ _ | refine Below.allocs ?_ | refine Below.next ?_ (by assumption) | refine Below.setCell ?_ (by dsimp only; omega) _))⟩
end Go.Proofs.Ytpdcaoagpjcgbab
