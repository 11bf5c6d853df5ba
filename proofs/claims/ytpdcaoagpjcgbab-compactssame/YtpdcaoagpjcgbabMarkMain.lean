/-
  The walk of gc.mark: all reachable objects are marked, and no others. It proves no statement by itself.
-/
import Derived.Test.YtpdcaoagpjcgbabMarkAll
set_option linter.unusedVariables false
set_option linter.unusedSimpArgs false
namespace Go.Proofs.Ytpdcaoagpjcgbab
open Go.RowKit

set_option maxHeartbeats 4000000 in
set_option maxRecDepth 100000 in
open Lw in
theorem mark_any (a : Option Addr) (n cap : Nat) (xs : List Int) (top : Int) (l : List Nat) (a2 : Option Addr) (k cap2 : Nat) (rs : List Int) (w : World) (hh : IsHeap w a n cap xs top) (hv : Valid xs top l) (hi2 : Ints w a2 rs) (hk : rs.length = k) (hkm : k * 8 ≤ 140737488351232)
    (hro : RootsOk (nums l) rs) : Calls Try.prog 57 #[.agg #[.slice a n cap, .int .i64 top], .slice a2 k cap2] w (MarkPost w xs rs l) := by
  have hmm := @run_makeMap Try.prog
  have hmf : ∀ (fn : Fn) (first cap : Array Value) (w : World), (Instr.makeFunc fn first cap).run Try.prog w = .ok (.func fn first cap) w := fun _ _ _ _ => rfl
  have hx := hh.len
  have v2 := hv.len2
  have v3 := hv.top1
  have v4 := hv.top2
  rw [hx] at v2 v4
  have hl := Objects.laid hv.objects
  have ht : top.toNat ≤ n := by omega
  have hl4 : l.length ≤ 400 := by have := hl.short; omega
  have HH := Lib.hide hh
  have HV := Lib.hide hv
  have HL := Lib.hide hl
  have HX := Lib.hide hx
  have HI2 := Lib.hide hi2
  have HK := Lib.hide hk
  have HRO := Lib.hide hro
  have kc1 := hh.cap1
  have kc2 := hh.cap2
  clear hh hv hl hx hi2 hk hro
  go_enter Try.func57, Try.ntmps57
  go_wp2
  obtain ⟨w0, hw0⟩ : ∃ w0, w.alloc (.cells #[.slice a n cap, .int .i64 top] 27) = w0 := ⟨_, rfl⟩
  have hb0 : Below w.heap.size w w0 := by rw [← hw0]; exact (by repeat (first | exact Below.refl _ _ | assumption | refine Below.drew ?_ | refine below_drewN ?_ _ | refine Below.allocs ?_ | refine Below.next ?_ (by assumption) | refine Below.setCell ?_ (by dsimp only; omega) _))
  have hs0 : w0.heap.size = w.heap.size + 1 := by rw [← hw0]; simp
  have hbx : Box2 w0 w.heap.size (.slice a n cap) (.int .i64 top) := by rw [← hw0]; exact Box2.new w _ _ _
  have HW0 := Lib.hide hw0
  have HS0 := Lib.hide hs0
  have HBX := Lib.hide hbx
  have HB0 := Lib.hide hb0
  clear hs0 hbx hb0
  go_loopg [19] k (fun g u wr => ∃ (i : Nat) (m : Int → Bool) (st : List Int), i ≤ k ∧ g = k - i ∧ u = .int .i64 i ∧ MarkRel w0 (w.heap.size + 1) xs rs l 0 wr m st ∧ ∀ j, j < i → rs.getD j 0 ≠ 0 → m (rs.getD j 0) = true)
  case atStart =>
    have e1 : (((w0.alloc (.map #[] 0)).alloc (.cells #[.map (some (w.heap.size + 1))] 95)).alloc (.cells #[.slice none 0 0] 25)).heap[w.heap.size + 1 + 2]? = some (.cells #[.slice none 0 0] 25 (0, 0)) := by
      have := heap_alloc_new ((w0.alloc (.map #[] 0)).alloc (.cells #[.map (some (w.heap.size + 1))] 95)) (.cells #[.slice none 0 0] 25)
      rw [show ((w0.alloc (.map #[] 0)).alloc (.cells #[.map (some (w.heap.size + 1))] 95)).heap.size = w.heap.size + 1 + 2 by simp [HS0.out]] at this
      exact this
    have e2 : (((w0.alloc (.map #[] 0)).alloc (.cells #[.map (some (w.heap.size + 1))] 95)).alloc (.cells #[.slice none 0 0] 25)).heap[w.heap.size + 1 + 1]? = some (.cells #[.map (some (w.heap.size + 1))] 95 (0, 0)) := by
      have := heap_alloc_new (w0.alloc (.map #[] 0)) (.cells #[.map (some (w.heap.size + 1))] 95)
      rw [show (w0.alloc (.map #[] 0)).heap.size = w.heap.size + 1 + 1 by simp [HS0.out]] at this
      exact (Below.heap_alloc _ _ _ (by simp [HS0.out])).trans this
    have e3 : MapB (((w0.alloc (.map #[] 0)).alloc (.cells #[.map (some (w.heap.size + 1))] 95)).alloc (.cells #[.slice none 0 0] 25)) (w.heap.size + 1) 0 (fun _ => false) := by
      have := MapB.made w0
      rw [HS0.out] at this
      exact (this.kept (Below.heap_alloc _ _ _ (by simp [HS0.out]))).kept (Below.heap_alloc _ _ _ (by simp [HS0.out]))
    have e4 : Below (w.heap.size + 1) w0 (((w0.alloc (.map #[] 0)).alloc (.cells #[.map (some (w.heap.size + 1))] 95)).alloc (.cells #[.slice none 0 0] 25)) := by
      have : Below w0.heap.size w0 (((w0.alloc (.map #[] 0)).alloc (.cells #[.map (some (w.heap.size + 1))] 95)).alloc (.cells #[.slice none 0 0] 25)) := (by repeat (first | exact Below.refl _ _ | assumption | refine Below.drew ?_ | refine below_drewN ?_ _ | refine Below.allocs ?_ | refine Below.next ?_ (by assumption) | refine Below.setCell ?_ (by dsimp only; omega) _))
      rw [HS0.out] at this
      exact this
    rw [HW0.out]
    refine ⟨0, fun _ => false, [], Nat.zero_le _, rfl, rfl, ⟨0, ⟨e2, e3, .slice none 0 0, e1, World.ownsRow_nil _ _ _ _⟩, ?_, ?_, e4, ?_, Search.start _ _ _⟩, fun j hj => absurd hj (Nat.not_lt_zero _)⟩
    · have := unmarked_le (nums l) (fun _ => false); rw [nums_length] at this; omega
    · have := unmarked_le (nums l) (fun _ => false); rw [nums_length] at this; simpa using this
    · simp [HS0.out]
  case round =>
    obtain ⟨i, m, st, hik, rfl, rfl, hmr, hrt⟩ := hrel
    have HMR := Lib.hide hmr
    have HRT := Lib.hide hrt
    have hbw : Below w.heap.size w wr := by
      obtain ⟨_, _, _, _, h4, _⟩ := hmr
      exact HB0.out.trans (h4.mono (by omega))
    have HBW := Lib.hide hbw
    clear hmr hrt hbw
    by_cases hlt : i < k
    · obtain ⟨b2, o2, rfl, hb2, hc2⟩ := (HI2.out.below HBW.out).at (by rw [HK.out]; omega)
      have e1 := hc2 i (by rw [HK.out]; exact hlt)
      clear hc2
      have hqr : rs.getD i 0 ∈ rs := mem_at.2 ⟨i, by rw [HK.out]; exact hlt, rfl⟩
      obtain ⟨q, hq⟩ : ∃ q, rs.getD i 0 = q := ⟨_, rfl⟩
      rw [hq] at e1 hqr
      have hq1 := HRO.out q hqr
      have hq2 : q = 0 ∨ (q ∈ nums l ∧ Reached xs rs q) := by
        by_cases h0 : q = 0
        · exact .inl h0
        · exact .inr ⟨hq1.resolve_left h0, .root hqr h0⟩
      have hq3 : Fits q := by
        rcases hq1 with h0 | h0
        · rw [h0]; exact fits_small (by omega) (by omega)
        · obtain ⟨r, rfl, hr⟩ := place_bounds h0 HL.out
          exact fits_small (by omega) (by omega)
      have C := Lib.hide (visit_any w0 (w.heap.size + 1) xs rs l 0 m st q wr HMR.out hl4 hq2 hq3)
      have HQ := Lib.hide hq
      clear hq hqr hq1 hq2 hq3
      go_wp2_with (go_at_call 80; refine C.out.mono ?_; rintro e w2 ⟨m', st', rfl, hmr', hq', hmono, hle⟩; have HMR' := Lib.hide hmr'; have HQ' := Lib.hide hq'; have HMO := Lib.hide hmono; clear hmr' hq' hmono hle)
      go_roundg (k - (i + 1))
      case measure => omega
      case rel =>
        refine ⟨i + 1, m', st', by omega, rfl, by go_num, HMR'.out, fun j hj h0 => ?_⟩
        rcases Nat.lt_or_ge j i with h | h
        · exact HMO.out _ (HRT.out j h h0)
        · obtain rfl : j = i := by omega
          rw [HQ.out] at h0 ⊢
          exact HQ'.out h0
    · obtain rfl : i = k := by omega
      have hroots : ∀ q ∈ rs, q ≠ 0 → m q = true := fun q hq h0 => by
        obtain ⟨j, hj, rfl⟩ := mem_at.1 hq
        rw [HK.out] at hj
        exact HRT.out j hj h0
      have HROO := Lib.hide hroots
      clear hroots
      go_wp2
      clear HRT HBW
      go_loopg [] (2 * unmarked (nums l) m + st.length) (fun g wq => ∃ (m : Int → Bool) (st : List Int), g = 2 * unmarked (nums l) m + st.length ∧ MarkRel w0 (w.heap.size + 1) xs rs l 0 wq m st ∧ ∀ q ∈ rs, q ≠ 0 → m q = true)
      case atStart => exact ⟨m, st, rfl, HMR.out, HROO.out⟩
      case round =>
        clear HMR HROO hik hlt
        obtain ⟨m, st, hgk, hmr, hroots⟩ := hrel
        have HROO := Lib.hide hroots
        have HGK := Lib.hide hgk
        clear hroots hgk
        obtain ⟨n', hst, hn1, hn2, hbel, hle, hse⟩ := hmr
        have hbw : Below w.heap.size w wr := HB0.out.trans (hbel.mono (by omega))
        have hbx : Box2 wr w.heap.size (.slice a n cap) (.int .i64 top) := HBX.out.next (by rw [HS0.out]; exact hbel)
        obtain ⟨x0, x1, x2, x3, x4⟩ := hbx
        have HBW := Lib.hide hbw
        have HBEL := Lib.hide hbel
        have HSE := Lib.hide hse
        have c1 := cell_of_one hst.cm
        have b1 := lt_of_block hst.cm
        rcases List.eq_nil_or_concat st with rfl | ⟨st0, p', hst9⟩
        · obtain ⟨av, cv, hc3⟩ := hst.none
          have c3 := cell_of_one hc3
          have HST := Lib.hide hst
          clear hst hc3 hbel hbw hse
          go_wp2
          go_ret
          exact ⟨w.heap.size + 1, n', m, rfl, by omega, HST.out.map, HSE.out.all (fun p hp => (HL.out.fit p hp).1) HROO.out, HBW.out⟩
        · rw [List.concat_eq_append] at hst9
          subst hst9
          have hp' := hse.mem p' (hse.opens p' (by simp))
          obtain ⟨p, rfl, hpt⟩ := place_bounds hp'.1 HL.out
          have hpl := mem_nums.1 hp'.1
          obtain ⟨hp1, fit1, fit2, fit3, fit4⟩ := HL.out.fit p hpl
          obtain ⟨f, hf⟩ := Int.eq_ofNat_of_zero_le fit2
          rw [hf] at fit3 fit4
          rw [Int.toNat_natCast] at fit4
          have HF := Lib.hide hf
          obtain ⟨g, c, hc3, hg1, hg2, hcs1, hcs2, hcell, hst0⟩ := hst.pop
          have c3 := cell_of_one hc3
          have f3 := free_of_one hc3
          have b3 := lt_of_block hc3
          have HST0 := Lib.hide hst0
          have hst2 := hse.take (fun p hp => (HL.out.fit p hp).1)
          have HSE2 := Lib.hide hst2
          have HPR := Lib.hide hp'.2
          have HPL := Lib.hide hpl
          have HMP := Lib.hide (hse.opens p (by simp))
          obtain ⟨s, hs⟩ : ∃ s, st0.length = s := ⟨_, rfl⟩
          rw [hs] at hc3 hcs1 hcell HST0 c3
          have hgs : (st0 ++ [(p : Int)]).length = s + 1 := by simp [hs]
          rw [hgs] at hn2
          have hgk := HGK.out
          rw [hgs] at hgk
          clear HGK
          have HGK := Lib.hide hgk
          clear hgk
          have HS := Lib.hide hs
          have hb1' : Below (w.heap.size + 1) w0 (wr.setCell ⟨w.heap.size + 1 + 2, 0, none⟩ (.slice (some ⟨g, 0, none⟩) s c)) := hbel.setCell (by dsimp only; omega) _
          have HB1' := Lib.hide hb1'
          have hls : w.heap.size + 1 ≤ (wr.setCell ⟨w.heap.size + 1 + 2, 0, none⟩ (.slice (some ⟨g, 0, none⟩) s c)).heap.size := by simpa [World.setCell] using hle
          have HLS := Lib.hide hls
          have CF := Lib.hide (fun w' (h : Below w.heap.size w w') => fields_any a n cap xs top p f w' (HH.out.ints.below h) HX.out v2 kc1 kc2 (by omega) HF.out)
          clear hst hse hst0 hst2 hp' hpl hc3 hs hf hgs hbel hbw hb1' hls
          go_wp2_with (go_at_call 81; refine (CF.out _ (HB0.out.trans (HB1'.out.mono (by omega)))).mono ?_; rintro e w3 ⟨a3, c4, rfl, hfc, hc9, hints, hwhere, hb3⟩; have HIN := Lib.hide hints; have HWH := Lib.hide hwhere; have HB3 := Lib.hide hb3; clear hints hwhere hb3)
          go_loopg [44] f (fun g u wq => ∃ (j : Nat) (m' : Int → Bool) (st' : List Int), j ≤ f ∧ g = f - j ∧ u = .int .i64 j ∧ MarkRel w0 (w.heap.size + 1) xs rs l p wq m' st' ∧ (∀ x, m x = true → m' x = true) ∧ 2 * unmarked (nums l) m' + st'.length < 2 * unmarked (nums l) m + (s + 1) ∧
            ∀ i, i < j → xs.getD (p + 2 + i) 0 % 2 = 1 → xs.getD (p + 2 + i) 0 / 2 ≠ 0 → m' (xs.getD (p + 2 + i) 0 / 2) = true)
          case atStart =>
            refine ⟨0, m, st0, Nat.zero_le _, rfl, rfl, MarkRel.next (w := wr.setCell ⟨w.heap.size + 1 + 2, 0, none⟩ (.slice (some ⟨g, 0, none⟩) s c)) ⟨n', HST0.out, hn1, by rw [HS.out]; omega, HB1'.out, HLS.out, HSE2.out⟩ HB3.out, fun _ h => h, by rw [HS.out]; omega, fun i hi => absurd hi (Nat.not_lt_zero _)⟩
          case round =>
            obtain ⟨j, m', st', hjf, rfl, rfl, hmr, hmono, hless, hdone⟩ := hrel
            have HMR := Lib.hide hmr
            have HMO := Lib.hide hmono
            have HLE := Lib.hide hless
            have HDO := Lib.hide hdone
            have hbw' : Below w.heap.size w wr := by
              obtain ⟨_, _, _, _, h4, _⟩ := hmr
              exact HB0.out.trans (h4.mono (by omega))
            have HBW' := Lib.hide hbw'
            clear hmr hmono hless hdone hbw'
            by_cases hjlt : j < f
            · obtain ⟨b, o, rfl, rfl⟩ := HWH.out (by omega)
              obtain ⟨b', o', he, hb, hc⟩ := (HH.out.ints.below HBW'.out).at (by rw [HX.out]; omega)
              have e1 : wr.cell? ⟨b, o + (p + 2) + j, none⟩ = some (.int .i64 (xs.getD (p + 2 + j) 0)) := by
                injection he with he
                injection he with he1 he2
                subst he1
                subst he2
                rw [Nat.add_assoc]
                exact hc (p + 2 + j) (by rw [HX.out]; omega)
              have hyf : Fits (xs.getD (p + 2 + j) 0) := by
                have h : p + 2 + j < xs.length := by rw [HX.out]; omega
                have : xs.getD (p + 2 + j) 0 = xs[p + 2 + j] := by simp [List.getD_eq_getElem?_getD, List.getElem?_eq_getElem h]
                rw [this]
                exact HH.out.fits _ (List.getElem_mem h)
              obtain ⟨y, hy⟩ : ∃ y, xs.getD (p + 2 + j) 0 = y := ⟨_, rfl⟩
              rw [hy] at e1 hyf
              have HY := Lib.hide hy
              have HYF := Lib.hide hyf
              clear hy hyf hc he hb
              by_cases hpar : y % 2 = 1
              · have hd : (y % 2 == 1) = true := by simpa using hpar
                have hq2 : y / 2 = 0 ∨ (y / 2 ∈ nums l ∧ Reached xs rs (y / 2)) := by
                  by_cases h0 : y / 2 = 0
                  · exact .inl h0
                  · have hrf : Refers xs p (y / 2) := ⟨j, by rw [HF.out]; omega, by rw [HY.out]; exact hpar, by rw [HY.out], h0⟩
                    exact .inr ⟨hrf.mem HV.out.fields HPL.out, .step HPR.out hrf⟩
                have hq3 : Fits (y / 2) := by
                  have := HYF.out.1
                  have := HYF.out.2
                  exact ⟨by omega, by omega⟩
                have C := Lib.hide (fun w' (h : Below wr.heap.size wr w') => visit_any w0 (w.heap.size + 1) xs rs l p m' st' (y / 2) w' (HMR.out.next h) hl4 hq2 hq3)
                have HPAR := Lib.hide hpar
                clear hq2 hq3 hpar
                go_wp2_with (first
                  | (go_at_call 26; refine (of_any y _ HYF.out).mono ?_; rintro e w5 ⟨rfl, hb5⟩)
                  | (go_at_call 80; refine (C.out _ (by repeat (first | exact Below.refl _ _ | assumption | refine Below.drew ?_ | refine below_drewN ?_ _ | refine Below.allocs ?_ | refine Below.next ?_ (by assumption) | refine Below.setCell ?_ (by dsimp only; omega) _))).mono ?_; rintro e w6 ⟨m2, st2, rfl, hmr', hq', hmono', hle'⟩; have HMR' := Lib.hide hmr'; have HQ' := Lib.hide hq'; have HMO' := Lib.hide hmono'; have HLE' := Lib.hide hle'; clear hmr' hq' hmono' hle'))
                go_roundg (f - (j + 1))
                case measure => omega
                case rel =>
                  refine ⟨j + 1, m2, st2, by omega, rfl, by go_num, HMR'.out, fun x h => HMO'.out x (HMO.out x h), Nat.lt_of_le_of_lt HLE'.out HLE.out, fun i hi h1 h2 => ?_⟩
                  rcases Nat.lt_or_ge i j with h | h
                  · exact HMO'.out _ (HDO.out i h h1 h2)
                  · obtain rfl : i = j := by omega
                    rw [HY.out] at h2 ⊢
                    exact HQ'.out h2
              · have hd : (y % 2 == 1) = false := by simpa using hpar
                have HPAR := Lib.hide hpar
                clear hpar
                go_wp2_with (go_at_call 26; refine (of_any y _ HYF.out).mono ?_; rintro e w5 ⟨rfl, hb5⟩)
                go_roundg (f - (j + 1))
                case measure => omega
                case rel =>
                  refine ⟨j + 1, m', st', by omega, rfl, by go_num, HMR.out.next (by repeat (first | exact Below.refl _ _ | assumption | refine Below.drew ?_ | refine below_drewN ?_ _ | refine Below.allocs ?_ | refine Below.next ?_ (by assumption) | refine Below.setCell ?_ (by dsimp only; omega) _)), HMO.out, HLE.out, fun i hi h1 h2 => ?_⟩
                  rcases Nat.lt_or_ge i j with h | h
                  · exact HDO.out i h h1 h2
                  · obtain rfl : i = j := by omega
                    rw [HY.out] at h1
                    exact absurd h1 HPAR.out
            · obtain rfl : j = f := by omega
              go_wp2
              go_roundg (2 * unmarked (nums l) m' + st'.length)
              case measure => rw [HGK.out]; exact HLE.out
              case rel =>
                refine ⟨m', st', rfl, ?_, fun q hq h0 => HMO.out q (HROO.out q hq h0)⟩
                obtain ⟨n2, r1, r2, r3, r4, r5, r6⟩ := HMR.out
                refine ⟨n2, r1, r2, r3, r4, r5, r6.done (fun q hq => ?_)⟩
                obtain ⟨i, hi, h1, h2, h3⟩ := hq
                rw [HF.out] at hi
                rw [← h2] at h3 ⊢
                exact HDO.out i (by omega) h1 h3
end Go.Proofs.Ytpdcaoagpjcgbab
