/-
  The walk of gc.move. It proves no statement by itself.
-/
import Derived.Test.YtpdcaoagpjcgbabMoveModel
import Derived.Deep.RegionHeld3
set_option linter.unusedVariables false
set_option linter.unusedSimpArgs false
namespace Go.Proofs.Ytpdcaoagpjcgbab
open Go.RowKit

/-- What move hands back: the heap of the moved objects, or nothing where one of them refers to an object that does not move along. -/
def MoveEnd (w : World) (n : Nat) (xs : List Int) (qs : List Nat) (e : Ending) (w' : World) : Prop :=
  (Closed xs qs qs.length ∧ ∃ (a : Option Addr) (c : Nat) (m : Int → Option Int), Dest xs qs qs.length m ∧ e = .returned (.tuple #[.agg #[.slice a n c, .int .i64 (toAt xs qs qs.length)], .bool true]) ∧ Own w' w.heap.size (.slice a n c) (built n xs m qs qs.length) ∧ Below w.heap.size w w') ∨
  (¬ Closed xs qs qs.length ∧ e = .returned (.tuple #[.agg #[.slice none 0 0, .int .i64 0], .bool false]) ∧ Below w.heap.size w w')

set_option maxHeartbeats 4000000 in
set_option maxRecDepth 100000 in
theorem move_any (a : Option Addr) (n cap : Nat) (xs : List Int) (top : Int) (t : Nat) (l qs : List Nat) (a2 : Option Addr) (k cap2 : Nat) (w : World) (hh : IsHeap w a n cap xs top) (hn1 : 1 ≤ n) (hn : n ≤ 400) (ht1 : 1 ≤ t) (ht : t ≤ n) (hro : Room xs t l qs) (hi2 : Moves w a2 (planOf xs qs k)) (hk : qs.length = k) (hk4 : k ≤ 400) :
    Calls Try.prog 64 #[.agg #[.slice a n cap, .int .i64 top], .slice a2 k cap2] w (MoveEnd w n xs qs) := by
  have hmm := @run_makeMap Try.prog
  have kc1 := hh.cap1
  have kc2 := hh.cap2
  have HH := Lib.hide hh
  have HX := Lib.hide hh.len
  have HRO := Lib.hide hro
  have HI2 := Lib.hide hi2
  have HK := Lib.hide hk
  have HB := Lib.hide (show Box2 ((w.alloc (.cells #[.slice a n cap, .int .i64 top] 27)).alloc (.cells #[.slice none 0 0, .int .i64 0] 27)) w.heap.size (.slice a n cap) (.int .i64 top) ∧ Box2 ((w.alloc (.cells #[.slice a n cap, .int .i64 top] 27)).alloc (.cells #[.slice none 0 0, .int .i64 0] 27)) (w.heap.size + 1) (.slice none 0 0) (.int .i64 0) from ⟨(Box2.new w _ _ _).alloc _, by
    have := Box2.new (w.alloc (.cells #[.slice a n cap, .int .i64 top] 27)) (.slice none 0 0) (.int .i64 0) 27
    rwa [show (w.alloc (.cells #[.slice a n cap, .int .i64 top] 27)).heap.size = w.heap.size + 1 by simp] at this⟩)
  clear hh hro hi2 hk
  go_enter Try.func64, Try.ntmps64
  go_wp2_with (go_at_call 22; refine (new_yes n _ hn1 hn).mono ?_; rintro e w1 ⟨a1, c, rfl, ho1, hb1⟩; have hmade := MapI.made (w1.alloc (.cells #[.slice a1 n c, .int .i64 1] 27)); rw [show (w1.alloc (.cells #[.slice a1 n c, .int .i64 1] 27)).heap.size = w1.heap.size + 1 by simp] at hmade; obtain ⟨w2, hrun2, hmap2, hg2⟩ := hmade.put (x := 0) (v := 0) (by unfold maxLen; omega) (fits_small (by omega) (by omega)) (fits_small (by omega) (by omega)); have HM2 := Lib.hide hmap2; have HG2 := Lib.hide hg2; have HO1 := Lib.hide ho1; have HB1 := Lib.hide hb1; clear hmade hmap2 hg2 ho1)
  obtain ⟨g, rfl, hg1, hg2, _, _⟩ := HO1.out.row (by omega)
  have hst : MoveSt w w2 (.slice a n cap) top g w1.heap.size n c 1 1 (List.replicate n 0) (setAt (fun _ => none) 0 (some 0)) := by
    have hg0 : w.heap.size + 2 ≤ g := by simpa using hg1
    have e : ∀ b, b ≤ w1.heap.size → w2.heap[b]? = (w1.alloc (.cells #[.slice (some ⟨g, 0, none⟩) n c, .int .i64 1] 27)).heap[b]? := fun b hb => by
      rw [HG2.out.block b (by simp; omega) (fun e => by have := Option.some.inj e; omega), Below.heap_alloc _ _ _ (by simp; omega)]
    have hs : (w1.alloc (.cells #[.slice (some ⟨g, 0, none⟩) n c, .int .i64 1] 27)).heap.size ≤ w2.heap.size := by have := HG2.out.size; simp at this ⊢; omega
    have x1 := (HB.out.1.next HB1.out).alloc (.cells #[.slice (some ⟨g, 0, none⟩) n c, .int .i64 1] 27)
    have x2 := (HB.out.2.next HB1.out).alloc (.cells #[.slice (some ⟨g, 0, none⟩) n c, .int .i64 1] 27)
    have x3 := Box2.new w1 (.slice (some ⟨g, 0, none⟩) n c) (.int .i64 1) 27
    have l1 := (HB.out.1.next HB1.out).lt
    have l2 := (HB.out.2.next HB1.out).lt
    refine ⟨x1.kept (e _ (by omega)) hs, x2.kept (e _ (by omega)) hs, x3.kept (e _ (Nat.le_refl _)) hs, ?_, HM2.out, ?_, hg2⟩
    · have h1 := (HO1.out.allocs (.cells #[.slice (some ⟨g, 0, none⟩) n c, .int .i64 1] 27)).allocs (.map #[] 0)
      rw [show ((w.alloc (.cells #[.slice a n cap, .int .i64 top] 27)).alloc (.cells #[.slice none 0 0, .int .i64 0] 27)).heap.size = w.heap.size + 2 by simp] at h1
      exact h1.grown HG2.out (by simp [Value.ownBlock]; omega)
    · have hb1 := HB1.out
      exact Below.grown (w := (w1.alloc (.cells #[.slice (some ⟨g, 0, none⟩) n c, .int .i64 1] 27)).alloc (.map #[] 0)) (by repeat (first | exact Below.refl _ _ | assumption | refine Below.drew ?_ | refine below_drewN ?_ _ | refine Below.allocs ?_ | refine Below.next ?_ (by assumption) | refine Below.setCell ?_ (by dsimp only; omega) _)) HG2.out (by simp; omega) (fun k hk => by have := Option.some.inj hk; omega)
  have HST := Lib.hide hst
  obtain ⟨M, hM⟩ : ∃ M, w1.heap.size = M := ⟨_, rfl⟩
  rw [hM] at HST ⊢
  clear hst hrun2 hM HM2 HG2 HO1 HB1 HB hg1 hg2
  go_loopg [25] k (fun q u wr => ∃ (j : Nat) (m : Int → Option Int), j ≤ k ∧ q = k - j ∧ u = .int .i64 j ∧ MoveSt w wr (.slice a n cap) top g M n c 1 (j + 1) (List.replicate n 0) m ∧ Dest xs qs j m)
  case atStart => exact ⟨0, _, Nat.zero_le _, rfl, rfl, HST.out, Dest.start _ _⟩
  case round =>
    clear HST
    obtain ⟨j, m, hj, rfl, rfl, hst, hde⟩ := hrel
    have HST := Lib.hide hst
    have HDE := Lib.hide hde
    clear hst hde
    by_cases hlt : j < k
    · obtain ⟨b2, o2, rfl, hb2, hc2⟩ := (HI2.out.below HST.out.below).at (by rw [planOf_length]; omega)
      have e0 := (hc2 j (by rw [planOf_length]; exact hlt)).1
      have e1 := (hc2 j (by rw [planOf_length]; exact hlt)).2
      rw [planOf_getD hlt] at e0 e1
      dsimp only at e0 e1
      clear hc2
      have hfit := HRO.out.fit (getD_mem (qs := qs) (j := j) (by rw [HK.out]; exact hlt))
      have htj := HRO.out.end_le ht1 j (by rw [HK.out]; exact hj)
      have hds := HDE.out.step (by rw [HK.out]; exact hlt) HRO.out.kept.sorted (by omega)
      obtain ⟨p, hp⟩ : ∃ p, qs.getD j 0 = p := ⟨_, rfl⟩
      obtain ⟨tj, htj'⟩ : ∃ tj, toAt xs qs j = tj := ⟨_, rfl⟩
      rw [hp] at e0 hfit hds
      rw [htj'] at e1 hds htj
      have HDS := Lib.hide hds
      obtain ⟨f1, f2, f3, f4⟩ := hfit
      clear hp htj' hds f4
      have hst2 := HST.out.next (w' := wr.alloc (.cells #[.int .i64 p, .int .i64 tj] 57)) (by repeat (first | exact Below.refl _ _ | assumption | refine Below.drew ?_ | refine below_drewN ?_ _ | refine Below.allocs ?_ | refine Below.next ?_ (by assumption) | refine Below.setCell ?_ (by dsimp only; omega) _))
      obtain ⟨w3, hrun3, hmap3, hg3⟩ := hst2.map.put (x := p) (v := tj) (by unfold maxLen; omega) (fits_small (by omega) (by omega)) (fits_small (by omega) (by omega))
      have HS3 := Lib.hide (hst2.puts hg3 hmap3)
      clear hst2 hmap3 hg3
      go_wp2
      go_roundg (k - (j + 1))
      case measure => omega
      case rel => exact ⟨j + 1, _, by omega, rfl, by go_num, HS3.out, HDS.out⟩
    · obtain rfl : j = k := by omega
      have hde2 := HDE.out
      have HMS := Lib.hide ((show Dest xs qs qs.length m by rw [HK.out]; exact hde2).small HRO.out ht1 (by omega))
      clear hde2
      have hbz : MoveSt w wr (.slice a n cap) top g M n c (toAt xs qs 0) (j + 1) (built n xs m qs 0) m := by rw [toAt_zero, built_zero _ _ _ _ hn1]; exact HST.out
      have HBZ := Lib.hide hbz
      clear hbz HST
      go_wp2
      go_loopg [37] j (fun q u wr => ∃ i : Nat, i ≤ j ∧ q = j - i ∧ u = .int .i64 i ∧ MoveSt w wr (.slice a n cap) top g M n c (toAt xs qs i) (j + 1) (built n xs m qs i) m ∧ Closed xs qs i)
      case atStart => exact ⟨0, Nat.zero_le _, rfl, rfl, HBZ.out, fun i hi => absurd hi (Nat.not_lt_zero _)⟩
      case round =>
        clear HBZ
        obtain ⟨i, hi, rfl, rfl, hst, hcl⟩ := hrel
        have HST := Lib.hide hst
        have HCL := Lib.hide hcl
        obtain ⟨x0, x1, x2, x3, x4⟩ := hst.bh
        obtain ⟨y0, y1, y2, y3, y4⟩ := hst.br
        obtain ⟨z0, z1, z2, z3, z4⟩ := hst.bm
        have hgl := hst.glt
        have hgM := hst.gM
        clear hst hcl
        by_cases hlt2 : i < j
        · have hij : i < qs.length := by rw [HK.out]; exact hlt2
          obtain ⟨b2, o2, rfl, hb2, hc2⟩ := (HI2.out.below HST.out.below).at (by rw [planOf_length]; omega)
          have e0 := (hc2 i (by rw [planOf_length]; exact hlt2)).1
          have e1 := (hc2 i (by rw [planOf_length]; exact hlt2)).2
          rw [planOf_getD hlt2] at e0 e1
          dsimp only at e0 e1
          clear hc2
          have hfit := HRO.out.fit (getD_mem (qs := qs) hij)
          have hen := HRO.out.end_le ht1 (i + 1) (by omega)
          have hts := toAt_succ (xs := xs) hij
          have hbl := HRO.out.built_length ht1 (by rw [HX.out]; exact ht) HX.out m (j := i) (by omega)
          have hcp := HRO.out.copied ht1 (by rw [HX.out]; exact ht) HX.out m hij
          have hre := HRO.out.redirected (n := n) ht1 (by rw [HX.out]; exact ht) m hij
          have hfl := HRO.out.front_length (by rw [HX.out]; exact ht) m i (by omega)
          have has := astray_iff (xs := xs) (qs := qs) (m := m) (by rw [HK.out]; exact HDE.out) hfit.2.2.2 (by rw [HX.out]; omega)
          obtain ⟨p, hp⟩ : ∃ p, qs.getD i 0 = p := ⟨_, rfl⟩
          obtain ⟨ti, hti⟩ : ∃ ti, toAt xs qs i = ti := ⟨_, rfl⟩
          rw [hp] at e0 hfit hts hcp hre has
          rw [hti] at e1 hts hcp hfl z1
          rw [hts] at hcp hre hen
          obtain ⟨f1, f2, f3, f4⟩ := hfit
          obtain ⟨f, hf⟩ : ∃ f, lenAt xs p = f := ⟨_, rfl⟩
          rw [hf] at f2 f3 f4 hts hcp hre hen has
          have HHT := Lib.hide hti
          have HF4 := Lib.hide f4
          have HP := Lib.hide hp
          have HTS := Lib.hide hts
          have HBL := Lib.hide hbl
          have HCP := Lib.hide hcp
          have HRE := Lib.hide hre
          have HFL := Lib.hide hfl
          have HAS := Lib.hide has
          obtain ⟨b, o, he, hb, hc⟩ := (HH.out.ints.below HST.out.below).at (by rw [HX.out]; omega)
          subst he
          have HC := Lib.hide hc
          clear hp hti hts hbl hcp hre hfl has hf f4 hc
          go_wp2_with (go_at_call 81; refine (fields_any (some ⟨b, o, none⟩) n cap xs top p f _ (HH.out.ints.below (Below.next HST.out.below (by repeat (first | exact Below.refl _ _ | assumption | refine Below.drew ?_ | refine below_drewN ?_ _ | refine Below.allocs ?_ | refine Below.next ?_ (by assumption) | refine Below.setCell ?_ (by dsimp only; omega) _)))) HX.out hn kc1 kc2 (by omega) HF4.out).mono ?_; rintro e w4 ⟨a4, c4, rfl, _, _, _, _, hb4⟩)
          have hwW : Below wr.heap.size wr w4 := (by repeat (first | exact Below.refl _ _ | assumption | refine Below.drew ?_ | refine below_drewN ?_ _ | refine Below.allocs ?_ | refine Below.next ?_ (by assumption) | refine Below.setCell ?_ (by dsimp only; omega) _))
          have HWW := Lib.hide hwW
          have HSW := Lib.hide (HST.out.next hwW)
          have HBX := Lib.hide ((Box2.new wr (.int .i64 p) (.int .i64 ti) 57).next hb4)
          obtain ⟨r0, r1, r2, r3, r4⟩ := HBX.out
          obtain ⟨q0, q1, q2, q3, q4⟩ := HSW.out.bm
          obtain ⟨s0, s1, s2, s3, s4⟩ := HSW.out.bh
          clear x0 x1 x2 x3 y0 y1 y2 y3 z0 z1 z2 z3 e0 e1 hwW
          have hrl : (rawWords xs p f).length = 2 + f := rawWords_length (by rw [HX.out]; omega)
          have hcn : n ≤ c := by
            rcases HSW.out.own.2 with ⟨h5, _⟩ | ⟨g', cap', cur, hv, _, _, u1, _⟩
            · cases h5
            · simp only [Value.slice.injEq] at hv
              omega
          have hc9 : c ≤ 9223372036854775807 := by
            rcases HSW.out.own.2 with ⟨h5, _⟩ | ⟨g', cap', cur, hv, _, _, _, u2, _⟩
            · cases h5
            · simp only [Value.slice.injEq] at hv
              unfold maxLen at u2
              omega
          have hsrc : ∃ ad, some (⟨b, o + p, none⟩ : Addr) = some ad ∧ ∀ q v, ((rawWords xs p f).map (Value.int .i64))[q]? = some v → w4.cell? (ad.add q) = some v := by
            refine ⟨_, rfl, fun q v hq => ?_⟩
            have hql : q < 2 + f := by
              rcases Nat.lt_or_ge q (2 + f) with h | h
              · exact h
              · rw [List.getElem?_eq_none (by simpa [hrl] using h)] at hq; cases hq
            have hv : v = .int .i64 (xs.getD (p + q) 0) := by
              rw [← rawWords_at hql]
              have h2 : q < (rawWords xs p f).length := by omega
              rw [List.getElem?_map, List.getElem?_eq_getElem h2] at hq
              simp at hq
              rw [← hq]
              simp [List.getD_eq_getElem?_getD, List.getElem?_eq_getElem h2]
            rw [hv, add_none, Nat.add_assoc]
            exact (HWW.out.cell (p := ⟨b, o + (p + q), none⟩) hb).trans (HC.out (p + q) (by rw [HX.out]; omega))
          have HSRC := Lib.hide hsrc
          have HRL := Lib.hide hrl
          have hct : ¬ c = ti := by omega
          have hcp : ¬ cap = p := by omega
          have hpn : p + (2 + f) ≤ cap := by omega
          have htn : ti ≤ n := by omega
          have i1 : IntKind.i64.wrap ((p : Int) + (2 + (f : Int))) = (p : Int) + (2 + (f : Int)) := IntWalk.i64_in _ (by omega)
          have i2 : (0 : Int) ≤ (p : Int) + (2 + (f : Int)) := by omega
          have i3 : ((p : Int) + (2 + (f : Int))).toNat = p + (2 + f) := by omega
          have i4 : (0 : Int) ≤ (ti : Int) := by omega
          have i5 : (ti : Int) ≤ (n : Int) := by omega
          have i6 : (p : Int) ≤ (p : Int) + (2 + (f : Int)) := by omega
          have i7 : (p : Int) + (2 + (f : Int)) ≤ (cap : Int) := by omega
          clear hrl hsrc
          go_region_held3 (fun w' => w'.cell? ⟨M, 0, none⟩ = some (.slice (some ⟨g, 0, none⟩) n c) ∧ w'.cell? ⟨wr.heap.size, 1, none⟩ = some (.int .i64 ti) ∧ w'.cell? ⟨w.heap.size, 0, none⟩ = some (.slice (some ⟨b, o, none⟩) n cap) ∧ w'.cell? ⟨wr.heap.size, 0, none⟩ = some (.int .i64 p))
            (first | exact ⟨q0, r1, s0, r0⟩ | exact ⟨k0, k1, k2, k3⟩ | go_keep)
            (first | (refine step_copy_into (by rfl) (.tmp 51) (.tmp 60) (by rfl) _ _ _ _ _ _ (by rfl) (by rfl) g ti n c (w.heap.size + 2) (built n xs m qs i) (rawWords xs p f) HSW.out.own.drews (by show _ = min _ _; rw [HRL.out]; omega) (by rw [HRL.out]; omega) (by first | rfl | simp) (by first | exact HSRC.out | simpa using HSRC.out) (by rw [HRL.out]; omega) ?_; intro w5 hown5 hg5; rw [HCP.out] at hown5; have HS5 := Lib.hide ((HSW.out.next (w' := w4.drew) (by repeat (first | exact Below.refl _ _ | assumption | refine Below.drew ?_ | refine below_drewN ?_ _ | refine Below.allocs ?_ | refine Below.next ?_ (by assumption) | refine Below.setCell ?_ (by dsimp only; omega) _))).words hg5 hown5); have HBX5 := Lib.hide ((HBX.out.next (w' := w4.drew) (by repeat (first | exact Below.refl _ _ | assumption | refine Below.drew ?_ | refine below_drewN ?_ _ | refine Below.allocs ?_ | refine Below.next ?_ (by assumption) | refine Below.setCell ?_ (by dsimp only; omega) _))).kept (hg5.block _ HBX.out.lt (fun e => by have := Option.some.inj e; omega)) hg5.size); have k0 := HS5.out.bm.c0; have k1 := HBX5.out.c1; have k2 := HS5.out.bh.c0; have k3 := HBX5.out.c0; clear hown5 hg5))
          clear i1 i2 i3 i4 i5 i6 i7 r0 r1 r2 r3 q0 q1 q2 q3 s0 s1 s2 s3
          obtain ⟨k4, k5, k6, k7, k8⟩ := HS5.out.bm
          have k9 := HBX5.out.lt
          have hpre : (front xs m qs i ++ [xs.getD p 0, xs.getD (p + 1) 0]).length = ti + 2 := by rw [List.length_append, HFL.out]; rfl
          have hfla : (fieldsAt xs p f).length = f := fieldsAt_length (by rw [HX.out]; omega)
          have hget : ((front xs m qs i ++ [xs.getD p 0, xs.getD (p + 1) 0]) ++ (fieldsAt xs p f ++ List.replicate (n - (ti + (2 + f))) 0)).getD (ti + 1) 0 = (f : Int) := by
            rw [List.append_assoc, List.cons_append, List.cons_append, List.nil_append, show front xs m qs i ++ xs.getD p 0 :: xs.getD (p + 1) 0 :: (fieldsAt xs p f ++ List.replicate (n - (ti + (2 + f))) 0) = (front xs m qs i ++ [xs.getD p 0]) ++ xs.getD (p + 1) 0 :: (fieldsAt xs p f ++ List.replicate (n - (ti + (2 + f))) 0) by simp, mid_get _ _ _ (by rw [List.length_append, HFL.out]; rfl)]
            exact HF4.out
          have hfif : ∀ y ∈ fieldsAt xs p f, Fits y := fun y hy => by
            obtain ⟨q, hq, rfl⟩ := mem_at.1 hy
            rw [hfla] at hq
            rw [fieldsAt_getD hq]
            have h : p + 2 + q < xs.length := by rw [HX.out]; omega
            exact HH.out.fits _ (mem_at.2 ⟨_, h, rfl⟩)
          have HPRE := Lib.hide hpre
          have HFLA := Lib.hide hfla
          have HGET := Lib.hide hget
          have HFIF := Lib.hide hfif
          clear hpre hfla hget hfif
          have CF2 := Lib.hide (fun w' (h : Below w5.heap.size w5 w') => fields_any (some ⟨g, 0, none⟩) n c _ ((toAt xs qs i : Nat) : Int) ti f w' (HS5.out.own.reads.2.below h) HS5.out.own.reads.1 hn hcn hc9 (by omega) HGET.out)
          by_cases hcl : ∀ q, Refers xs p q → q ∈ nums qs
          · have hna : ∀ y ∈ fieldsAt xs p f, ¬ Astray m y := fun y hy ha => (HAS.out.1 ⟨y, hy, ha⟩) hcl
            have HNA := Lib.hide hna
            have HCLP := Lib.hide hcl
            clear hna hcl
            go_wp2_with (first
              | (go_at_call 81; (with_reducible refine (CF2.out _ (by repeat (first | exact Below.refl _ _ | assumption | refine Below.drew ?_ | refine below_drewN ?_ _ | refine Below.allocs ?_ | refine Below.next ?_ (by assumption) | refine Below.setCell ?_ (by dsimp only; omega) _))).mono ?_); rintro e w6 ⟨a6, c6, rfl, _, _, _, hwh, hb6⟩; have HWH := Lib.hide hwh; have HS6 := Lib.hide (HS5.out.next hb6); have HBX6 := Lib.hide (HBX5.out.next hb6); clear hwh)
              | (go_at_call 83; refine (redirect_yes a6 f c6 g n c (w.heap.size + 2) (M + 1) (j + 1) (ti + 2) m _ _ _ _ HS6.out.own HPRE.out HFLA.out f3 hn (fun h0 => by obtain ⟨b', o', h1, h2⟩ := HWH.out h0; injection h1 with h1; injection h1 with h3 h4; subst h3; subst h4; rw [h2, Nat.zero_add]) HS6.out.map (by omega) HFIF.out HMS.out HNA.out).mono ?_; rintro e w7 ⟨rfl, hown7, hg7⟩; rw [HRE.out] at hown7; have HS7 := Lib.hide (HS6.out.words hg7 hown7); have HBX7 := Lib.hide (HBX6.out.kept (hg7.block _ HBX6.out.lt (fun e => by have := Option.some.inj e; omega)) hg7.size); obtain ⟨l0, l1, l2, l3, l4⟩ := HS7.out.bm; obtain ⟨n0, n1, n2, n3, n4⟩ := HBX7.out; clear hown7 hg7))
            go_roundg (j - (i + 1))
            case measure => omega
            case rel =>
              refine ⟨i + 1, by omega, rfl, by go_num, ?_, fun q hq r hr => ?_⟩
              · have := HS7.out.tops (ti + (2 + f))
                rw [HTS.out]
                exact this
              · rcases Nat.lt_or_ge q i with h | h
                · exact HCL.out q h r hr
                · obtain rfl : q = i := by omega
                  rw [HP.out] at hr
                  exact HCLP.out r hr
          · have hsa := HAS.out.2 hcl
            have HSA := Lib.hide hsa
            have hncl : ¬ Closed xs qs qs.length := fun h => hcl (fun q hq => h i hij q (by rw [HP.out]; exact hq))
            have HNCL := Lib.hide hncl
            clear hsa hcl hncl
            go_wp2_with (first
              | (go_at_call 81; (with_reducible refine (CF2.out _ (by repeat (first | exact Below.refl _ _ | assumption | refine Below.drew ?_ | refine below_drewN ?_ _ | refine Below.allocs ?_ | refine Below.next ?_ (by assumption) | refine Below.setCell ?_ (by dsimp only; omega) _))).mono ?_); rintro e w6 ⟨a6, c6, rfl, _, _, _, hwh, hb6⟩; have HWH := Lib.hide hwh; have HS6 := Lib.hide (HS5.out.next hb6); have HBX6 := Lib.hide (HBX5.out.next hb6); clear hwh)
              | (go_at_call 83; refine (redirect_no a6 f c6 g n c (w.heap.size + 2) (M + 1) (j + 1) (ti + 2) m _ _ _ _ HS6.out.own HPRE.out HFLA.out f3 hn (fun h0 => by obtain ⟨b', o', h1, h2⟩ := HWH.out h0; injection h1 with h1; injection h1 with h3 h4; subst h3; subst h4; rw [h2, Nat.zero_add]) HS6.out.map (by omega) HFIF.out HMS.out HSA.out).mono ?_; rintro e w7 ⟨rfl, hg7⟩; have HR7 := Lib.hide (HS6.out.br.kept (hg7.block _ HS6.out.br.lt (fun e => by have := Option.some.inj e; omega)) hg7.size); obtain ⟨l0, l1, l2, l3, l4⟩ := HR7.out; have hbw7 : Below w.heap.size w w7 := HS6.out.below.grown hg7 HS6.out.below.size (fun k hk => by have := Option.some.inj hk; omega); have HBW7 := Lib.hide hbw7; clear hg7 hbw7))
            refine bodyPost_ret (v := .tuple #[.agg #[.slice none 0 0, .int .i64 0], .bool false]) (by simp [results, Try.results64, go_sem, l0, l1]) rfl (.inr ⟨HNCL.out, rfl, ?_⟩)
            exact (HBW7.out.setCell (by dsimp only; omega) _).setCell (by dsimp only; omega) _
        · obtain rfl : i = j := by omega
          go_wp2
          have hfin : MoveEnd w n xs qs (.returned (.tuple #[.agg #[.slice (some ⟨g, 0, none⟩) n c, .int .i64 (toAt xs qs i)], .bool true])) ((wr.setCell ⟨w.heap.size + 1, 0, none⟩ (.slice (some ⟨g, 0, none⟩) n c)).setCell ⟨w.heap.size + 1, 1, none⟩ (.int .i64 (toAt xs qs i))) := by
            refine .inl ⟨by rw [HK.out]; exact HCL.out, some ⟨g, 0, none⟩, c, m, by rw [HK.out]; exact HDE.out, by rw [HK.out], ?_, ?_⟩
            · rw [HK.out]
              exact ownsRow_base ((HST.out.own.far (by simp [Value.ownBlock]; omega) _).far (by simp [Value.ownBlock]; omega) _) (by omega)
            · exact (HST.out.below.setCell (by dsimp only; omega) _).setCell (by dsimp only; omega) _
          exact bodyPost_ret (v := .tuple #[.agg #[.slice (some ⟨g, 0, none⟩) n c, .int .i64 (toAt xs qs i)], .bool true]) (by simp [results, Try.results64, go_sem, y0, y1]) rfl hfin
end Go.Proofs.Ytpdcaoagpjcgbab
