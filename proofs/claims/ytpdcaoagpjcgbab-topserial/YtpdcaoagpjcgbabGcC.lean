/-
  The walk of gc.mark: all reachable objects are marked, and no others. It proves no statement by itself.
-/
import Derived.Test.YtpdcaoagpjcgbabGcA
import Derived.Lib.SliceRun
set_option linter.unusedVariables false
set_option linter.unusedSimpArgs false
namespace Go.Proofs.Ytpdcaoagpjcgbab
open Go.RowKit

/-- What holds between two steps of mark. -/
def MarkRel (w0 : World) (B : Nat) (xs rs : List Int) (l : List Nat) (cur : Int) (w : World) (m : Int → Bool) (st : List Int) : Prop :=
  ∃ n, MarkSt w B n m st ∧ n + unmarked (nums l) m ≤ l.length ∧ st.length + unmarked (nums l) m ≤ l.length ∧ Below B w0 w ∧ B ≤ w.heap.size ∧ Search xs rs l cur m st

theorem MarkRel.next {w0 w w' : World} {B : Nat} {xs rs : List Int} {l : List Nat} {cur : Int} {m : Int → Bool} {st : List Int} (h : MarkRel w0 B xs rs l cur w m st) (hb : Below w.heap.size w w') : MarkRel w0 B xs rs l cur w' m st := by
  obtain ⟨n, h1, h2, h3, h4, h5, h6⟩ := h
  exact ⟨n, h1.next hb, h2, h3, h4.trans (hb.mono h5), Nat.le_trans h5 hb.size, h6⟩

/-- What a visit leaves. -/
def VisitPost (w0 : World) (B : Nat) (xs rs : List Int) (l : List Nat) (cur : Int) (m : Int → Bool) (st : List Int) (q : Int) (e : Ending) (w' : World) : Prop :=
  ∃ (m' : Int → Bool) (st' : List Int), e = .returned (.tuple #[]) ∧ MarkRel w0 B xs rs l cur w' m' st' ∧ (q ≠ 0 → m' q = true) ∧ (∀ x, m x = true → m' x = true) ∧ 2 * unmarked (nums l) m' + st'.length ≤ 2 * unmarked (nums l) m + st.length

theorem visit_any (w0 : World) (B : Nat) (xs rs : List Int) (l : List Nat) (cur : Int) (m : Int → Bool) (st : List Int) (q : Int) (w : World) (h : MarkRel w0 B xs rs l cur w m st) (hl : l.length ≤ 400) (hq : q = 0 ∨ (q ∈ nums l ∧ Reached xs rs q)) (hf : Fits q) :
    Calls Try.prog 80 #[.int .i64 q, .pointer (some ⟨B + 1, 0, none⟩), .pointer (some ⟨B + 2, 0, none⟩)] w (VisitPost w0 B xs rs l cur m st q) := by
  have h0 := h
  obtain ⟨n, h1, h2, h3, h4, h5, h6⟩ := h
  by_cases hq0 : q = 0
  · subst hq0
    refine (visit_zero B n m st w h1).mono ?_
    rintro e w' ⟨rfl, rfl⟩
    exact ⟨m, st, rfl, h0, fun h => absurd rfl h, fun _ h => h, Nat.le_refl _⟩
  · by_cases hm : m q = true
    · refine (visit_old q B n m st w h1 hf hq0 hm).mono ?_
      rintro e w' ⟨rfl, rfl⟩
      exact ⟨m, st, rfl, h0, fun _ => hm, fun _ h => h, Nat.le_refl _⟩
    · have hm' : m q = false := by simpa using hm
      obtain ⟨hqm, hqr⟩ := hq.resolve_left hq0
      have hu := unmarked_set hqm hm'
      refine (visit_new q B n m st w h1 hf hq0 hm' (by omega) (by omega)).mono ?_
      rintro e w' ⟨rfl, hst, hbel⟩
      refine ⟨_, _, rfl, ⟨n + 1, hst, by omega, by simp; omega, h4.trans hbel, Nat.le_trans h5 hbel.size, h6.push hqm hqr⟩, fun _ => setAt_same _ _ _, fun _ h => setAt_mono h, by simp; omega⟩

/-- What mark hands back. -/
def MarkPost (w : World) (xs rs : List Int) (l : List Nat) (e : Ending) (w' : World) : Prop :=
  ∃ (mb n : Nat) (m : Int → Bool), e = .returned (.map (some mb)) ∧ w.heap.size ≤ mb ∧ MapB w' mb n m ∧ (∀ q, (m q = true ↔ Reached xs rs q)) ∧ Below w.heap.size w w'

/-- A shorter part of a list of the call's own. -/
theorem Own.short {w : World} {base n c g : Nat} {xs : List Int} {y : Int} (h : Own w base (.slice (some ⟨g, 0, none⟩) n c) (xs ++ [y])) : Own w base (.slice (some ⟨g, 0, none⟩) xs.length c) xs := by
  refine ⟨by simp, ?_⟩
  rcases h.2 with ⟨h2, _⟩ | ⟨g', cap, cur, hv, hg, hh, r1, r2, r3, r4⟩
  · cases h2
  · simp only [Value.slice.injEq] at hv
    obtain ⟨hv1, hv2, hv3⟩ := hv
    subst hv3
    injection hv1 with hv1
    injection hv1 with hv1
    subst hv1
    refine .inr ⟨g, c, cur, rfl, hg, hh, by simp at r1; omega, r2, r3, ?_⟩
    rw [Nat.mul_one] at r4 ⊢
    have := congrArg (List.take xs.length) r4
    rw [List.take_take] at this
    simp at this
    exact this

theorem MarkSt.pop {w : World} {B n : Nat} {m : Int → Bool} {st : List Int} {p : Int} (h : MarkSt w B n m (st ++ [p])) : ∃ g c, w.heap[B + 2]? = some (.cells #[.slice (some ⟨g, 0, none⟩) (st.length + 1) c] 25 (0, 0)) ∧ B + 3 ≤ g ∧ g < w.heap.size ∧ st.length + 1 ≤ c ∧ c ≤ 9223372036854775807 ∧ w.cell? ⟨g, st.length, none⟩ = some (.int .i64 p) ∧
    MarkSt (w.setCell ⟨B + 2, 0, none⟩ (.slice (some ⟨g, 0, none⟩) st.length c)) B n m st := by
  obtain ⟨h1, h2, v, h3, h4⟩ := h
  obtain ⟨a, c, rfl, hi⟩ := h4.ints
  obtain ⟨g, rfl, hg1, hg2, hg3, hg4⟩ := h4.row (by simp)
  have hc : st.length + 1 ≤ c ∧ c ≤ 9223372036854775807 := by
    rcases h4.2 with ⟨h5, _⟩ | ⟨g', cap, cur, hv, _, _, r1, r2, _⟩
    · cases h5
    · simp only [Value.slice.injEq] at hv
      unfold maxLen at r2
      simp at r1
      omega
  have hcell := hg3 st.length (by simp)
  have hgd : (st ++ [p]).getD st.length 0 = p := by simp [List.getD_eq_getElem?_getD]
  rw [hgd] at hcell
  have hlen : (st ++ [p]).length = st.length + 1 := by simp
  rw [hlen] at h3 h4
  refine ⟨g, c, h3, hg1, hg2, hc.1, hc.2, hcell, ?_, ?_, _, one_setCell h3, ?_⟩
  · exact (Below.heap_setCell _ _ _ _ (by simp)).trans h1
  · exact h2.kept (Below.heap_setCell _ _ _ _ (by simp))
  · exact ownsRow_setCell_other (Own.short h4) (by simp [Value.ownBlock]; omega) _

theorem MarkSt.none {w : World} {B n : Nat} {m : Int → Bool} (h : MarkSt w B n m []) : ∃ a c, w.heap[B + 2]? = some (.cells #[.slice a 0 c] 25 (0, 0)) := by
  obtain ⟨h1, h2, v, h3, h4⟩ := h
  obtain ⟨a, c, rfl, _⟩ := h4.ints
  exact ⟨a, c, h3⟩
end Go.Proofs.Ytpdcaoagpjcgbab

/-
  The walk of gc.mark: all reachable objects are marked, and no others. It proves no statement by itself.
-/
namespace Go.Proofs.Ytpdcaoagpjcgbab
open Go.RowKit

set_option maxHeartbeats 4000000 in
set_option maxRecDepth 100000 in
open Lw in
theorem mark_any (a : Option Addr) (n cap : Nat) (xs : List Int) (top : Int) (l : List Nat) (a2 : Option Addr) (k cap2 : Nat) (rs : List Int) (w : World) (hh : IsHeap w a n cap xs top) (hv : Valid xs top l) (hi2 : Ints w a2 rs) (hk : rs.length = k) (hkm : k * 8 ≤ 140737488351232)
    (hro : RootsOk (nums l) rs) : Calls Try.prog 57 #[.agg #[.slice a n cap, .int .i64 top], .slice a2 k cap2] w (MarkPost w xs rs l) := by
  have hmm := @run_makeMap Try.prog
  have hmf : ∀ (fn : Fn) (first cap : Array Value) (w : World), (Instr.makeFunc fn first cap).run Try.prog w = .ok (.func fn first cap) w := fun _ _ _ _ => rfl
  have hx := hh.len
  have v2 := hv.len2
  have v3 := hv.top1
  have v4 := hv.top2
  rw [hx] at v2 v4
  have hl := Objects.laid hv.objects
  have ht : top.toNat ≤ n := by omega
  have hl4 : l.length ≤ 400 := by have := hl.short; omega
  have HH := Lib.hide hh
  have HV := Lib.hide hv
  have HL := Lib.hide hl
  have HX := Lib.hide hx
  have HI2 := Lib.hide hi2
  have HK := Lib.hide hk
  have HRO := Lib.hide hro
  have kc1 := hh.cap1
  have kc2 := hh.cap2
  clear hh hv hl hx hi2 hk hro
  go_enter Try.func57, Try.ntmps57
  go_wp2
  obtain ⟨w0, hw0⟩ : ∃ w0, w.alloc (.cells #[.slice a n cap, .int .i64 top] 27) = w0 := ⟨_, rfl⟩
  have hb0 : Below w.heap.size w w0 := by rw [← hw0]; exact (by repeat (first | exact Below.refl _ _ | assumption | refine Below.drew ?_ | refine below_drewN ?_ _ | refine Below.allocs ?_ | refine Below.next ?_ (by assumption) | refine Below.setCell ?_ (by dsimp only; omega) _))
  have hs0 : w0.heap.size = w.heap.size + 1 := by rw [← hw0]; simp
  have hbx : Box2 w0 w.heap.size (.slice a n cap) (.int .i64 top) := by rw [← hw0]; exact Box2.new w _ _ _
  have HW0 := Lib.hide hw0
  have HS0 := Lib.hide hs0
  have HBX := Lib.hide hbx
  have HB0 := Lib.hide hb0
  clear hs0 hbx hb0
  go_loopg [19] k (fun g u wr => ∃ (i : Nat) (m : Int → Bool) (st : List Int), i ≤ k ∧ g = k - i ∧ u = .int .i64 i ∧ MarkRel w0 (w.heap.size + 1) xs rs l 0 wr m st ∧ ∀ j, j < i → rs.getD j 0 ≠ 0 → m (rs.getD j 0) = true)
  case atStart =>
    have e1 : (((w0.alloc (.map #[] 0)).alloc (.cells #[.map (some (w.heap.size + 1))] 95)).alloc (.cells #[.slice none 0 0] 25)).heap[w.heap.size + 1 + 2]? = some (.cells #[.slice none 0 0] 25 (0, 0)) := by
      have := heap_alloc_new ((w0.alloc (.map #[] 0)).alloc (.cells #[.map (some (w.heap.size + 1))] 95)) (.cells #[.slice none 0 0] 25)
      rw [show ((w0.alloc (.map #[] 0)).alloc (.cells #[.map (some (w.heap.size + 1))] 95)).heap.size = w.heap.size + 1 + 2 by simp [HS0.out]] at this
      exact this
    have e2 : (((w0.alloc (.map #[] 0)).alloc (.cells #[.map (some (w.heap.size + 1))] 95)).alloc (.cells #[.slice none 0 0] 25)).heap[w.heap.size + 1 + 1]? = some (.cells #[.map (some (w.heap.size + 1))] 95 (0, 0)) := by
      have := heap_alloc_new (w0.alloc (.map #[] 0)) (.cells #[.map (some (w.heap.size + 1))] 95)
      rw [show (w0.alloc (.map #[] 0)).heap.size = w.heap.size + 1 + 1 by simp [HS0.out]] at this
      exact (Below.heap_alloc _ _ _ (by simp [HS0.out])).trans this
    have e3 : MapB (((w0.alloc (.map #[] 0)).alloc (.cells #[.map (some (w.heap.size + 1))] 95)).alloc (.cells #[.slice none 0 0] 25)) (w.heap.size + 1) 0 (fun _ => false) := by
      have := MapB.made w0
      rw [HS0.out] at this
      exact (this.kept (Below.heap_alloc _ _ _ (by simp [HS0.out]))).kept (Below.heap_alloc _ _ _ (by simp [HS0.out]))
    have e4 : Below (w.heap.size + 1) w0 (((w0.alloc (.map #[] 0)).alloc (.cells #[.map (some (w.heap.size + 1))] 95)).alloc (.cells #[.slice none 0 0] 25)) := by
      have : Below w0.heap.size w0 (((w0.alloc (.map #[] 0)).alloc (.cells #[.map (some (w.heap.size + 1))] 95)).alloc (.cells #[.slice none 0 0] 25)) := (by repeat (first | exact Below.refl _ _ | assumption | refine Below.drew ?_ | refine below_drewN ?_ _ | refine Below.allocs ?_ | refine Below.next ?_ (by assumption) | refine Below.setCell ?_ (by dsimp only; omega) _))
      rw [HS0.out] at this
      exact this
    rw [HW0.out]
    refine ⟨0, fun _ => false, [], Nat.zero_le _, rfl, rfl, ⟨0, ⟨e2, e3, .slice none 0 0, e1, World.ownsRow_nil _ _ _ _⟩, ?_, ?_, e4, ?_, Search.start _ _ _⟩, fun j hj => absurd hj (Nat.not_lt_zero _)⟩
    · have := unmarked_le (nums l) (fun _ => false); rw [nums_length] at this; omega
    · have := unmarked_le (nums l) (fun _ => false); rw [nums_length] at this; simpa using this
    · simp [HS0.out]
  case round =>
    obtain ⟨i, m, st, hik, rfl, rfl, hmr, hrt⟩ := hrel
    have HMR := Lib.hide hmr
    have HRT := Lib.hide hrt
    have hbw : Below w.heap.size w wr := by
      obtain ⟨_, _, _, _, h4, _⟩ := hmr
      exact HB0.out.trans (h4.mono (by omega))
    have HBW := Lib.hide hbw
    clear hmr hrt hbw
    by_cases hlt : i < k
    · obtain ⟨b2, o2, rfl, hb2, hc2⟩ := (HI2.out.below HBW.out).at (by rw [HK.out]; omega)
      have e1 := hc2 i (by rw [HK.out]; exact hlt)
      clear hc2
      have hqr : rs.getD i 0 ∈ rs := mem_at.2 ⟨i, by rw [HK.out]; exact hlt, rfl⟩
      obtain ⟨q, hq⟩ : ∃ q, rs.getD i 0 = q := ⟨_, rfl⟩
      rw [hq] at e1 hqr
      have hq1 := HRO.out q hqr
      have hq2 : q = 0 ∨ (q ∈ nums l ∧ Reached xs rs q) := by
        by_cases h0 : q = 0
        · exact .inl h0
        · exact .inr ⟨hq1.resolve_left h0, .root hqr h0⟩
      have hq3 : Fits q := by
        rcases hq1 with h0 | h0
        · rw [h0]; exact fits_small (by omega) (by omega)
        · obtain ⟨r, rfl, hr⟩ := place_bounds h0 HL.out
          exact fits_small (by omega) (by omega)
      have C := Lib.hide (visit_any w0 (w.heap.size + 1) xs rs l 0 m st q wr HMR.out hl4 hq2 hq3)
      have HQ := Lib.hide hq
      clear hq hqr hq1 hq2 hq3
      go_wp2_with (go_at_call 80; refine C.out.mono ?_; rintro e w2 ⟨m', st', rfl, hmr', hq', hmono, hle⟩; have HMR' := Lib.hide hmr'; have HQ' := Lib.hide hq'; have HMO := Lib.hide hmono; clear hmr' hq' hmono hle)
      go_roundg (k - (i + 1))
      case measure => omega
      case rel =>
        refine ⟨i + 1, m', st', by omega, rfl, by go_num, HMR'.out, fun j hj h0 => ?_⟩
        rcases Nat.lt_or_ge j i with h | h
        · exact HMO.out _ (HRT.out j h h0)
        · obtain rfl : j = i := by omega
          rw [HQ.out] at h0 ⊢
          exact HQ'.out h0
    · obtain rfl : i = k := by omega
      have hroots : ∀ q ∈ rs, q ≠ 0 → m q = true := fun q hq h0 => by
        obtain ⟨j, hj, rfl⟩ := mem_at.1 hq
        rw [HK.out] at hj
        exact HRT.out j hj h0
      have HROO := Lib.hide hroots
      clear hroots
      go_wp2
      clear HRT HBW
      go_loopg [] (2 * unmarked (nums l) m + st.length) (fun g wq => ∃ (m : Int → Bool) (st : List Int), g = 2 * unmarked (nums l) m + st.length ∧ MarkRel w0 (w.heap.size + 1) xs rs l 0 wq m st ∧ ∀ q ∈ rs, q ≠ 0 → m q = true)
      case atStart => exact ⟨m, st, rfl, HMR.out, HROO.out⟩
      case round =>
        clear HMR HROO hik hlt
        obtain ⟨m, st, hgk, hmr, hroots⟩ := hrel
        have HROO := Lib.hide hroots
        have HGK := Lib.hide hgk
        clear hroots hgk
        obtain ⟨n', hst, hn1, hn2, hbel, hle, hse⟩ := hmr
        have hbw : Below w.heap.size w wr := HB0.out.trans (hbel.mono (by omega))
        have hbx : Box2 wr w.heap.size (.slice a n cap) (.int .i64 top) := HBX.out.next (by rw [HS0.out]; exact hbel)
        obtain ⟨x0, x1, x2, x3, x4⟩ := hbx
        have HBW := Lib.hide hbw
        have HBEL := Lib.hide hbel
        have HSE := Lib.hide hse
        have c1 := cell_of_one hst.cm
        have b1 := lt_of_block hst.cm
        rcases List.eq_nil_or_concat st with rfl | ⟨st0, p', hst9⟩
        · obtain ⟨av, cv, hc3⟩ := hst.none
          have c3 := cell_of_one hc3
          have HST := Lib.hide hst
          clear hst hc3 hbel hbw hse
          go_wp2
          go_ret
          exact ⟨w.heap.size + 1, n', m, rfl, by omega, HST.out.map, HSE.out.all (fun p hp => (HL.out.fit p hp).1) HROO.out, HBW.out⟩
        · rw [List.concat_eq_append] at hst9
          subst hst9
          have hp' := hse.mem p' (hse.opens p' (by simp))
          obtain ⟨p, rfl, hpt⟩ := place_bounds hp'.1 HL.out
          have hpl := mem_nums.1 hp'.1
          obtain ⟨hp1, fit1, fit2, fit3, fit4⟩ := HL.out.fit p hpl
          obtain ⟨f, hf⟩ := Int.eq_ofNat_of_zero_le fit2
          rw [hf] at fit3 fit4
          rw [Int.toNat_natCast] at fit4
          have HF := Lib.hide hf
          obtain ⟨g, c, hc3, hg1, hg2, hcs1, hcs2, hcell, hst0⟩ := hst.pop
          have c3 := cell_of_one hc3
          have f3 := free_of_one hc3
          have b3 := lt_of_block hc3
          have HST0 := Lib.hide hst0
          have hst2 := hse.take (fun p hp => (HL.out.fit p hp).1)
          have HSE2 := Lib.hide hst2
          have HPR := Lib.hide hp'.2
          have HPL := Lib.hide hpl
          have HMP := Lib.hide (hse.opens p (by simp))
          obtain ⟨s, hs⟩ : ∃ s, st0.length = s := ⟨_, rfl⟩
          rw [hs] at hc3 hcs1 hcell HST0 c3
          have hgs : (st0 ++ [(p : Int)]).length = s + 1 := by simp [hs]
          rw [hgs] at hn2
          have hgk := HGK.out
          rw [hgs] at hgk
          clear HGK
          have HGK := Lib.hide hgk
          clear hgk
          have HS := Lib.hide hs
          have hb1' : Below (w.heap.size + 1) w0 (wr.setCell ⟨w.heap.size + 1 + 2, 0, none⟩ (.slice (some ⟨g, 0, none⟩) s c)) := hbel.setCell (by dsimp only; omega) _
          have HB1' := Lib.hide hb1'
          have hls : w.heap.size + 1 ≤ (wr.setCell ⟨w.heap.size + 1 + 2, 0, none⟩ (.slice (some ⟨g, 0, none⟩) s c)).heap.size := by simpa [World.setCell] using hle
          have HLS := Lib.hide hls
          have CF := Lib.hide (fun w' (h : Below w.heap.size w w') => fields_any a n cap xs top p f w' (HH.out.ints.below h) HX.out v2 kc1 kc2 (by omega) HF.out)
          clear hst hse hst0 hst2 hp' hpl hc3 hs hf hgs hbel hbw hb1' hls
          go_wp2_with (go_at_call 81; refine (CF.out _ (HB0.out.trans (HB1'.out.mono (by omega)))).mono ?_; rintro e w3 ⟨a3, c4, rfl, hfc, hc9, hints, hwhere, hb3⟩; have HIN := Lib.hide hints; have HWH := Lib.hide hwhere; have HB3 := Lib.hide hb3; clear hints hwhere hb3)
          go_loopg [44] f (fun g u wq => ∃ (j : Nat) (m' : Int → Bool) (st' : List Int), j ≤ f ∧ g = f - j ∧ u = .int .i64 j ∧ MarkRel w0 (w.heap.size + 1) xs rs l p wq m' st' ∧ (∀ x, m x = true → m' x = true) ∧ 2 * unmarked (nums l) m' + st'.length < 2 * unmarked (nums l) m + (s + 1) ∧
            ∀ i, i < j → xs.getD (p + 2 + i) 0 % 2 = 1 → xs.getD (p + 2 + i) 0 / 2 ≠ 0 → m' (xs.getD (p + 2 + i) 0 / 2) = true)
          case atStart =>
            refine ⟨0, m, st0, Nat.zero_le _, rfl, rfl, MarkRel.next (w := wr.setCell ⟨w.heap.size + 1 + 2, 0, none⟩ (.slice (some ⟨g, 0, none⟩) s c)) ⟨n', HST0.out, hn1, by rw [HS.out]; omega, HB1'.out, HLS.out, HSE2.out⟩ HB3.out, fun _ h => h, by rw [HS.out]; omega, fun i hi => absurd hi (Nat.not_lt_zero _)⟩
          case round =>
            obtain ⟨j, m', st', hjf, rfl, rfl, hmr, hmono, hless, hdone⟩ := hrel
            have HMR := Lib.hide hmr
            have HMO := Lib.hide hmono
            have HLE := Lib.hide hless
            have HDO := Lib.hide hdone
            have hbw' : Below w.heap.size w wr := by
              obtain ⟨_, _, _, _, h4, _⟩ := hmr
              exact HB0.out.trans (h4.mono (by omega))
            have HBW' := Lib.hide hbw'
            clear hmr hmono hless hdone hbw'
            by_cases hjlt : j < f
            · obtain ⟨b, o, rfl, rfl⟩ := HWH.out (by omega)
              obtain ⟨b', o', he, hb, hc⟩ := (HH.out.ints.below HBW'.out).at (by rw [HX.out]; omega)
              have e1 : wr.cell? ⟨b, o + (p + 2) + j, none⟩ = some (.int .i64 (xs.getD (p + 2 + j) 0)) := by
                injection he with he
                injection he with he1 he2
                subst he1
                subst he2
                rw [Nat.add_assoc]
                exact hc (p + 2 + j) (by rw [HX.out]; omega)
              have hyf : Fits (xs.getD (p + 2 + j) 0) := by
                have h : p + 2 + j < xs.length := by rw [HX.out]; omega
                have : xs.getD (p + 2 + j) 0 = xs[p + 2 + j] := by simp [List.getD_eq_getElem?_getD, List.getElem?_eq_getElem h]
                rw [this]
                exact HH.out.fits _ (List.getElem_mem h)
              obtain ⟨y, hy⟩ : ∃ y, xs.getD (p + 2 + j) 0 = y := ⟨_, rfl⟩
              rw [hy] at e1 hyf
              have HY := Lib.hide hy
              have HYF := Lib.hide hyf
              clear hy hyf hc he hb
              by_cases hpar : y % 2 = 1
              · have hd : (y % 2 == 1) = true := by simpa using hpar
                have hq2 : y / 2 = 0 ∨ (y / 2 ∈ nums l ∧ Reached xs rs (y / 2)) := by
                  by_cases h0 : y / 2 = 0
                  · exact .inl h0
                  · have hrf : Refers xs p (y / 2) := ⟨j, by rw [HF.out]; omega, by rw [HY.out]; exact hpar, by rw [HY.out], h0⟩
                    exact .inr ⟨hrf.mem HV.out.fields HPL.out, .step HPR.out hrf⟩
                have hq3 : Fits (y / 2) := by
                  have := HYF.out.1
                  have := HYF.out.2
                  exact ⟨by omega, by omega⟩
                have C := Lib.hide (fun w' (h : Below wr.heap.size wr w') => visit_any w0 (w.heap.size + 1) xs rs l p m' st' (y / 2) w' (HMR.out.next h) hl4 hq2 hq3)
                have HPAR := Lib.hide hpar
                clear hq2 hq3 hpar
                go_wp2_with (first
                  | (go_at_call 26; refine (of_any y _ HYF.out).mono ?_; rintro e w5 ⟨rfl, hb5⟩)
                  | (go_at_call 80; refine (C.out _ (by repeat (first | exact Below.refl _ _ | assumption | refine Below.drew ?_ | refine below_drewN ?_ _ | refine Below.allocs ?_ | refine Below.next ?_ (by assumption) | refine Below.setCell ?_ (by dsimp only; omega) _))).mono ?_; rintro e w6 ⟨m2, st2, rfl, hmr', hq', hmono', hle'⟩; have HMR' := Lib.hide hmr'; have HQ' := Lib.hide hq'; have HMO' := Lib.hide hmono'; have HLE' := Lib.hide hle'; clear hmr' hq' hmono' hle'))
                go_roundg (f - (j + 1))
                case measure => omega
                case rel =>
                  refine ⟨j + 1, m2, st2, by omega, rfl, by go_num, HMR'.out, fun x h => HMO'.out x (HMO.out x h), Nat.lt_of_le_of_lt HLE'.out HLE.out, fun i hi h1 h2 => ?_⟩
                  rcases Nat.lt_or_ge i j with h | h
                  · exact HMO'.out _ (HDO.out i h h1 h2)
                  · obtain rfl : i = j := by omega
                    rw [HY.out] at h2 ⊢
                    exact HQ'.out h2
              · have hd : (y % 2 == 1) = false := by simpa using hpar
                have HPAR := Lib.hide hpar
                clear hpar
                go_wp2_with (go_at_call 26; refine (of_any y _ HYF.out).mono ?_; rintro e w5 ⟨rfl, hb5⟩)
                go_roundg (f - (j + 1))
                case measure => omega
                case rel =>
                  refine ⟨j + 1, m', st', by omega, rfl, by go_num, HMR.out.next (by repeat (first | exact Below.refl _ _ | assumption | refine Below.drew ?_ | refine below_drewN ?_ _ | refine Below.allocs ?_ | refine Below.next ?_ (by assumption) | refine Below.setCell ?_ (by dsimp only; omega) _)), HMO.out, HLE.out, fun i hi h1 h2 => ?_⟩
                  rcases Nat.lt_or_ge i j with h | h
                  · exact HDO.out i h h1 h2
                  · obtain rfl : i = j := by omega
                    rw [HY.out] at h1
                    exact absurd h1 HPAR.out
            · obtain rfl : j = f := by omega
              go_wp2
              go_roundg (2 * unmarked (nums l) m' + st'.length)
              case measure => rw [HGK.out]; exact HLE.out
              case rel =>
                refine ⟨m', st', rfl, ?_, fun q hq h0 => HMO.out q (HROO.out q hq h0)⟩
                obtain ⟨n2, r1, r2, r3, r4, r5, r6⟩ := HMR.out
                refine ⟨n2, r1, r2, r3, r4, r5, r6.done (fun q hq => ?_)⟩
                obtain ⟨i, hi, h1, h2, h3⟩ := hq
                rw [HF.out] at hi
                rw [← h2] at h3 ⊢
                exact HDO.out i (by omega) h1 h3
end Go.Proofs.Ytpdcaoagpjcgbab

/-
  The walks of slices.IndexFunc and slices.DeleteFunc with the closure in gc.Reach: what is not marked is removed. It proves no statement by itself.
-/
namespace Go.Proofs.Ytpdcaoagpjcgbab
open Go.RowKit

/-- The variable at block bv holds a map that holds m. -/
structure DelSt (w : World) (bv mb n : Nat) (m : Int → Bool) : Prop where
  cm : w.heap[bv]? = some (.cells #[.map (some mb)] 95 (0, 0))
  map : MapB w mb n m

theorem DelSt.kept {w w' : World} {bv mb n : Nat} {m : Int → Bool} (h : DelSt w bv mb n m) (h1 : w'.heap[bv]? = w.heap[bv]?) (h2 : w'.heap[mb]? = w.heap[mb]?) : DelSt w' bv mb n m := ⟨h1.trans h.cm, h.map.kept h2⟩

set_option maxHeartbeats 400000 in
theorem reach1_keep (x : Int) (bv mb n : Nat) (m : Int → Bool) (w : World) (h : DelSt w bv mb n m) (hx : Fits x) (hm : m x = true) :
    Calls Try.prog 59 #[.int .i64 x, .pointer (some ⟨bv, 0, none⟩)] w fun e w' => e = .returned (.bool false) ∧ w = w' := by
  have c1 := cell_of_one h.cm
  have hl := h.map.look hx true hm
  clear h hx hm
  go_enter Try.func59, Try.ntmps59
  go_wp2
  go_ret
  exact ⟨rfl, rfl⟩
set_option maxHeartbeats 400000 in
theorem reach1_drop (x : Int) (bv mb n : Nat) (m : Int → Bool) (w : World) (h : DelSt w bv mb n m) (hx : Fits x) (hm : m x = false) :
    Calls Try.prog 59 #[.int .i64 x, .pointer (some ⟨bv, 0, none⟩)] w fun e w' => e = .returned (.bool true) ∧ w = w' := by
  have c1 := cell_of_one h.cm
  have hl := h.map.look hx false hm
  clear h hx hm
  go_enter Try.func59, Try.ntmps59
  go_wp2
  go_ret
  exact ⟨rfl, rfl⟩

theorem fits_at {zs : List Int} (hf : ∀ x ∈ zs, Fits x) {i : Nat} (hi : i < zs.length) : Fits (zs.getD i 0) := hf _ (mem_at.2 ⟨i, hi, rfl⟩)

set_option maxHeartbeats 800000 in
theorem indexFunc_none (a : Option Addr) (n cap : Nat) (zs : List Int) (bv mb k : Nat) (m : Int → Bool) (w : World) (hi : Ints w a zs) (hz : zs.length = n) (hn : n ≤ 400) (hf : ∀ x ∈ zs, Fits x) (hd : DelSt w bv mb k m) (hall : ∀ i, i < n → m (zs.getD i 0) = true) :
    Calls Try.prog 82 #[.slice a n cap, .func (.func 59) #[] #[.pointer (some ⟨bv, 0, none⟩)]] w fun e w' => e = .returned (.int .i64 (-1)) ∧ w = w' := by
  have HI := Lib.hide hi
  have HZ := Lib.hide hz
  have HF := Lib.hide hf
  have HD := Lib.hide hd
  have HA := Lib.hide hall
  clear hi hz hf hd hall
  go_enter Try.func82, Try.ntmps82
  go_wp2
  go_loop [8] (fun u => ∃ i : Nat, i ≤ n ∧ u = .int .i64 i) (fun u => n - (intOf u).toNat)
  case atStart => exact ⟨0, Nat.zero_le _, rfl⟩
  case round =>
    obtain ⟨i, hin, rfl⟩ := hrel
    by_cases hlt : i < n
    · obtain ⟨b, o, rfl, hb, hc⟩ := HI.out.at (by rw [HZ.out]; omega)
      have e1 := hc i (by rw [HZ.out]; omega)
      clear hc
      have C := Lib.hide (reach1_keep (zs.getD i 0) bv mb k m w HD.out (fits_at HF.out (by rw [HZ.out]; exact hlt)) (HA.out i hlt))
      generalize zs.getD i 0 = y at *
      go_wp2_with (go_at_call 59; refine C.out.mono ?_; rintro e w' ⟨rfl, rfl⟩)
      go_round
      case rel => exact ⟨i + 1, by omega, by go_num⟩
      case measure => simp [intOf]; omega
    · go_wp2
      go_ret
      exact ⟨rfl, rfl⟩

set_option maxHeartbeats 800000 in
theorem indexFunc_some (a : Option Addr) (n cap : Nat) (zs : List Int) (bv mb k : Nat) (m : Int → Bool) (w : World) (j : Nat) (hi : Ints w a zs) (hz : zs.length = n) (hn : n ≤ 400) (hf : ∀ x ∈ zs, Fits x) (hd : DelSt w bv mb k m) (hj : j < n) (hall : ∀ i, i < j → m (zs.getD i 0) = true) (hnot : m (zs.getD j 0) = false) :
    Calls Try.prog 82 #[.slice a n cap, .func (.func 59) #[] #[.pointer (some ⟨bv, 0, none⟩)]] w fun e w' => e = .returned (.int .i64 j) ∧ w = w' := by
  have HI := Lib.hide hi
  have HZ := Lib.hide hz
  have HF := Lib.hide hf
  have HD := Lib.hide hd
  have HA := Lib.hide hall
  have HN := Lib.hide hnot
  clear hi hz hf hd hall hnot
  go_enter Try.func82, Try.ntmps82
  go_wp2
  go_loop [8] (fun u => ∃ i : Nat, i ≤ j ∧ u = .int .i64 i) (fun u => n - (intOf u).toNat)
  case atStart => exact ⟨0, Nat.zero_le _, rfl⟩
  case round =>
    obtain ⟨i, hij, rfl⟩ := hrel
    obtain ⟨b, o, rfl, hb, hc⟩ := HI.out.at (by rw [HZ.out]; omega)
    have e1 := hc i (by rw [HZ.out]; omega)
    clear hc
    by_cases hlt : i < j
    · have C := Lib.hide (reach1_keep (zs.getD i 0) bv mb k m w HD.out (fits_at HF.out (by rw [HZ.out]; omega)) (HA.out i hlt))
      generalize zs.getD i 0 = y at *
      go_wp2_with (go_at_call 59; refine C.out.mono ?_; rintro e w' ⟨rfl, rfl⟩)
      go_round
      case rel => exact ⟨i + 1, by omega, by go_num⟩
      case measure => simp [intOf]; omega
    · obtain rfl : i = j := by omega
      have C := Lib.hide (reach1_drop (zs.getD i 0) bv mb k m w HD.out (fits_at HF.out (by rw [HZ.out]; omega)) HN.out)
      clear HN
      generalize zs.getD i 0 = y at *
      go_wp2_with (go_at_call 59; refine C.out.mono ?_; rintro e w' ⟨rfl, rfl⟩)
      go_ret
      exact ⟨rfl, rfl⟩

/-- The first numbers of a list of the call's own. -/
theorem Own.firsts {w : World} {base n c g : Nat} {xs : List Int} (h : Own w base (.slice (some ⟨g, 0, none⟩) n c) xs) (i : Nat) (hi : i ≤ xs.length) : Own w base (.slice (some ⟨g, 0, none⟩) i c) (xs.take i) := by
  have hl : (xs.take i).length = i := by simp; omega
  refine ⟨by simp, ?_⟩
  rcases h.2 with ⟨h2, _⟩ | ⟨g', cap, cur, hv, hg, hh, r1, r2, r3, r4⟩
  · cases h2
  · simp only [Value.slice.injEq] at hv
    obtain ⟨hv1, hv2, hv3⟩ := hv
    subst hv3
    injection hv1 with hv1
    injection hv1 with hv1
    subst hv1
    refine .inr ⟨g, c, cur, by rw [hl], hg, hh, by omega, r2, r3, ?_⟩
    rw [Nat.mul_one] at r4 ⊢
    have := congrArg (List.take i) r4
    rw [List.take_take, Nat.min_eq_left hi] at this
    rw [hl, this, List.map_take]

theorem Own.storedAll {base n c g : Nat} : ∀ (vs : List Int) (o : Nat) (w : World) (xs : List Int), Own w base (.slice (some ⟨g, 0, none⟩) n c) xs →
    ∃ ys, Own (w.setCells g o (vs.map (Value.int .i64))) base (.slice (some ⟨g, 0, none⟩) n c) ys ∧ ys.length = xs.length ∧ ys.take o = xs.take o
  | [], _, _, xs, h => ⟨xs, h, rfl, rfl⟩
  | v :: vs, o, w, xs, h => by
    obtain ⟨ys, h1, h2, h3⟩ := Own.storedAll vs (o + 1) _ _ (h.stored o v)
    refine ⟨ys, h1, by rw [h2, List.length_set], ?_⟩
    have := congrArg (List.take o) h3
    rw [List.take_take, List.take_take, Nat.min_eq_left (by omega)] at this
    rw [this, List.take_set_of_le (Nat.le_refl _)]

theorem Below.setCells {B g : Nat} {a : World} (hB : B ≤ g) : ∀ (vs : List Value) (o : Nat) (w : World), Below B a w → Below B a (w.setCells g o vs)
  | [], _, _, h => h
  | v :: vs, o, w, h => Below.setCells hB vs (o + 1) _ (h.setCell (p := ⟨g, o, none⟩) hB v)

theorem take_succ_filter {zs : List Int} {m : Int → Bool} {j : Nat} (hj : j < zs.length) : (zs.take (j + 1)).filter m = (zs.take j).filter m ++ (if m (zs.getD j 0) then [zs.getD j 0] else []) := by
  rw [List.take_succ_eq_append_getElem hj, List.filter_append]
  have e : zs.getD j 0 = zs[j] := by simp [List.getD_eq_getElem?_getD, List.getElem?_eq_getElem hj]
  rw [e]
  simp [List.filter_cons]

/-- What DeleteFunc hands back. -/
def DelPost (w : World) (base : Nat) (zs : List Int) (m : Int → Bool) (e : Ending) (w' : World) : Prop :=
  ∃ a' c', e = .returned (.slice a' (zs.filter m).length c') ∧ Own w' base (.slice a' (zs.filter m).length c') (zs.filter m) ∧ Below base w w'

theorem exists_first {p : Nat → Bool} : ∀ n, (∀ i, i < n → p i = true) ∨ ∃ j, j < n ∧ (∀ i, i < j → p i = true) ∧ p j = false
  | 0 => .inl fun i hi => absurd hi (Nat.not_lt_zero _)
  | n + 1 => by
    rcases exists_first (p := p) n with h | ⟨j, h1, h2, h3⟩
    · by_cases hn : p n = true
      · refine .inl fun i hi => ?_
        rcases Nat.lt_or_ge i n with h' | h'
        · exact h i h'
        · obtain rfl : i = n := by omega
          exact hn
      · exact .inr ⟨n, by omega, h, by simpa using hn⟩
    · exact .inr ⟨j, by omega, h2, h3⟩

set_option maxHeartbeats 1600000 in
theorem deleteFunc_any (a : Option Addr) (n cap : Nat) (zs : List Int) (bv mb k base : Nat) (m : Int → Bool) (w : World) (ho : Own w base (.slice a n cap) zs) (hn : n ≤ 400) (hf : ∀ x ∈ zs, Fits x) (hd : DelSt w bv mb k m) (hbase : base ≤ w.heap.size) :
    Calls Try.prog 58 #[.slice a n cap, .func (.func 59) #[] #[.pointer (some ⟨bv, 0, none⟩)]] w (DelPost w base zs m) := by
  have hz := ho.reads.1
  rcases exists_first (p := fun i => m (zs.getD i 0)) n with hall | ⟨j, hj, hall, hnot⟩
  · have hfil : zs.filter m = zs := by
      rw [List.filter_eq_self]
      intro x hx
      obtain ⟨i, hi, rfl⟩ := mem_at.1 hx
      exact hall i (by omega)
    have hp : DelPost w base zs m (.returned (.slice a n cap)) w := ⟨a, cap, by rw [hfil, hz], by rw [hfil, hz]; exact ho, Below.refl _ _⟩
    have HP := Lib.hide hp
    have C := Lib.hide (indexFunc_none a n cap zs bv mb k m w ho.reads.2 hz hn hf hd hall)
    clear hfil hp ho hf hd hall hz
    go_enter Try.func58, Try.ntmps58
    go_wp2_with (go_at_call 82; refine C.out.mono ?_; rintro e w' ⟨rfl, rfl⟩)
    go_ret
    exact HP.out
  · have C := Lib.hide (indexFunc_some a n cap zs bv mb k m w j ho.reads.2 hz hn hf hd hj hall hnot)
    obtain ⟨g, rfl, hg1, hg2, hgc, hgf⟩ := ho.row (by omega)
    have hcap : n ≤ cap ∧ cap ≤ 9223372036854775807 := by
      rcases ho.2 with ⟨h5, _⟩ | ⟨g', cap', cur, hv, _, _, r1, r2, _⟩
      · cases h5
      · simp only [Value.slice.injEq] at hv
        unfold maxLen at r2
        omega
    obtain ⟨hc1, hc2⟩ := hcap
    have hgb : g ≠ bv ∧ g ≠ mb := by
      have hh : ∃ cur, w.heap[g]? = some (.cells cur 3 (0, 0)) := by
        rcases ho.2 with ⟨h5, _⟩ | ⟨g', cap', cur, hv, _, hh, _⟩
        · cases h5
        · simp only [Value.slice.injEq] at hv
          obtain ⟨hv1, _⟩ := hv
          injection hv1 with hv1
          injection hv1 with hv1
          subst hv1
          exact ⟨cur, hh⟩
      obtain ⟨cur, hh⟩ := hh
      refine ⟨fun e => ?_, fun e => ?_⟩
      · subst e
        have := hd.cm
        rw [hh] at this
        simp at this
      · subst e
        obtain ⟨D, ⟨es, clock, h1, _⟩, _⟩ := hd.map
        rw [hh] at h1
        simp at h1
    have HGB := Lib.hide hgb
    have hstart : (zs.take (j + 1)).filter m = zs.take j := by
      rw [take_succ_filter (by omega), hnot]
      simp
      intro x hx
      obtain ⟨i, hi, rfl⟩ := mem_at.1 hx
      have hij : i < j := by simp at hi; omega
      have := hall i hij
      have e : (zs.take j).getD i 0 = zs.getD i 0 := by simp [List.getD_eq_getElem?_getD, List.getElem?_take, hij]
      rw [e]
      exact this
    have HST := Lib.hide hstart
    have HO := Lib.hide ho
    have HZ := Lib.hide hz
    have HF := Lib.hide hf
    have HD := Lib.hide hd
    clear ho hf hd hall hnot hz hgb hstart hgc hgf
    have hd1 : ((j : Int) == -1) = false := by simp
    go_enter Try.func58, Try.ntmps58
    go_wp2_with (go_at_call 82; refine C.out.mono ?_; rintro e w' ⟨rfl, rfl⟩)
    clear C
    go_loopg [5, 6] (n - (j + 1)) (fun q u v wr => ∃ (x y : Nat) (ys : List Int), x < y ∧ y ≤ n ∧ q = n - y ∧ u = .int .i64 x ∧ v = .int .i64 y ∧ Own wr base (.slice (some ⟨g, 0, none⟩) n cap) ys ∧ ys.take x = (zs.take y).filter m ∧ (∀ k, y ≤ k → k < n → ys.getD k 0 = zs.getD k 0) ∧ DelSt wr bv mb k m ∧ Below base w wr ∧ base ≤ wr.heap.size)
    case atStart => exact ⟨j, j + 1, zs, by omega, by omega, rfl, rfl, by go_num, HO.out, HST.out.symm, fun _ _ _ => rfl, HD.out, Below.refl _ _, hbase⟩
    case round =>
      obtain ⟨x, y, ys, hxy, hyn, rfl, rfl, rfl, hown, htake, hrest, hds, hbel, hle⟩ := hrel
      obtain ⟨g', he, hg3, hg4, hgc, hgf⟩ := hown.row (by omega)
      injection he with he
      injection he with he
      subst he
      have HOW := Lib.hide hown
      have HTA := Lib.hide htake
      have HRE := Lib.hide hrest
      have HDS := Lib.hide hds
      have HBE := Lib.hide hbel
      have hyl := hown.reads.1
      have HYL := Lib.hide hyl
      by_cases hlt : y < n
      · have e1 := hgc y (by omega)
        rw [hrest y (Nat.le_refl _) hlt] at e1
        have e2 := hgc x (by omega)
        have e3 := hgf x
        have hfz : Fits (zs.getD y 0) := fits_at HF.out (by rw [HZ.out]; exact hlt)
        obtain ⟨z, hzz⟩ : ∃ z, zs.getD y 0 = z := ⟨_, rfl⟩
        have HTS := Lib.hide (take_succ_filter (m := m) (zs := zs) (j := y) (by rw [HZ.out]; exact hlt))
        rw [hzz] at e1 hfz HTS
        clear hown htake hrest hds hbel hgc hgf hyl hzz
        by_cases hm : m z = true
        · have CK := Lib.hide (reach1_keep z bv mb k m wr HDS.out hfz hm)
          have HM := Lib.hide hm
          clear hm hfz
          go_wp2_with (go_at_call 59; refine CK.out.mono ?_; rintro e w' ⟨rfl, rfl⟩)
          go_roundg (n - (y + 1))
          case measure => omega
          case rel =>
            refine ⟨x + 1, y + 1, ys.set x z, by omega, by omega, rfl, by go_num, by go_num, HOW.out.stored x z, ?_, fun q hq1 hq2 => ?_, HDS.out.kept (Below.heap_setCell _ _ _ _ (fun e => HGB.out.1 e.symm)) (Below.heap_setCell _ _ _ _ (fun e => HGB.out.2 e.symm)), HBE.out.setCell hg1 _, by simpa [World.setCell] using hle⟩
            · rw [HTS.out, HM.out, if_pos rfl, ← HTA.out, List.take_succ_eq_append_getElem (by rw [List.length_set, HYL.out]; omega), List.take_set_of_le (Nat.le_refl _)]
              simp
            · rw [Lw.getD_set_ne (by omega)]
              exact HRE.out q (by omega) hq2
        · have hm' : m z = false := by simpa using hm
          have CK := Lib.hide (reach1_drop z bv mb k m wr HDS.out hfz hm')
          have HM := Lib.hide hm'
          clear hm hm' hfz
          go_wp2_with (go_at_call 59; refine CK.out.mono ?_; rintro e w' ⟨rfl, rfl⟩)
          go_roundg (n - (y + 1))
          case measure => omega
          case rel =>
            refine ⟨x, y + 1, ys, by omega, by omega, rfl, rfl, by go_num, HOW.out, ?_, fun q hq1 hq2 => HRE.out q (by omega) hq2, HDS.out, HBE.out, hle⟩
            rw [HTS.out, HM.out, HTA.out]
            simp
      · obtain rfl : y = n := by omega
        have hcl := fun ty => Lib.run_clear_slice (P := Try.prog) wr 25 3 ty (.int .i64 0) Try.underlying25 Try.zeroInt rfl rfl g x (y - x) (cap - x) (by omega) (fun i hi => by rw [hgc (x + i) (by omega)]; rfl) (fun i hi => hgf (x + i))
        have hcx : ¬ cap = x := by omega
        obtain ⟨ys', hown', hlen', htk'⟩ := Own.storedAll (List.replicate (y - x) 0) x wr ys hown
        rw [List.map_replicate] at hown'
        have hfin : zs.filter m = ys'.take x := by
          rw [htk', htake, List.take_of_length_le (by rw [HZ.out]; exact Nat.le_refl _)]
        have hlx : (zs.filter m).length = x := by
          rw [hfin]; simp; omega
        have hown2 := hown'.firsts x (by omega)
        rw [← hfin] at hown2
        have HOW2 := Lib.hide hown2
        have HLX := Lib.hide hlx
        clear hown htake hrest hds hbel hgc hgf hyl hown' htk' hlen' hfin hlx hown2
        go_wp2
        go_ret
        refine ⟨some ⟨g, 0, none⟩, cap, ?_, ?_, Below.setCells hg1 _ _ _ HBE.out⟩
        · rw [HLX.out]; rfl
        · rw [HLX.out]; exact HOW2.out
end Go.Proofs.Ytpdcaoagpjcgbab

/-
  The walks of gc.Reach. It proves no statement by itself.
-/
namespace Go.Proofs.Ytpdcaoagpjcgbab
open Go.RowKit

set_option maxHeartbeats 400000 in
open Lw in
theorem reach_bad (a : Option Addr) (n cap : Nat) (xs : List Int) (top : Int) (a2 : Option Addr) (k cap2 : Nat) (w : World) (hh : IsHeap w a n cap xs top) (hv : ∀ l, ¬ Valid xs top l) :
    Calls Try.prog 24 #[.agg #[.slice a n cap, .int .i64 top], .slice a2 k cap2] w fun e w' => e = .returned (.tuple #[.slice none 0 0, .int .i64 5]) ∧ Below w.heap.size w w' := by
  have H := Lib.hide hh
  have HV := Lib.hide hv
  clear hh hv
  go_enter Try.func24, Try.ntmps24
  go_wp2_with (go_at_call 16; refine (places_no a n cap xs top _ (H.out.below (by repeat (first | exact Below.refl _ _ | assumption | refine Below.drew ?_ | refine below_drewN ?_ _ | refine Below.allocs ?_ | refine Below.next ?_ (by assumption) | refine Below.setCell ?_ (by dsimp only; omega) _))) HV.out).mono ?_; rintro e w1 ⟨rfl, hb1⟩)
  go_ret2
  exact ⟨rfl, (by repeat (first | exact Below.refl _ _ | assumption | refine Below.drew ?_ | refine below_drewN ?_ _ | refine Below.allocs ?_ | refine Below.next ?_ (by assumption) | refine Below.setCell ?_ (by dsimp only; omega) _))⟩

set_option maxHeartbeats 800000 in
open Lw in
theorem reach_none (a : Option Addr) (n cap : Nat) (xs : List Int) (top : Int) (l : List Nat) (a2 : Option Addr) (k cap2 : Nat) (rs : List Int) (w : World) (hh : IsHeap w a n cap xs top) (hv : Valid xs top l) (hi2 : Ints w a2 rs) (hk : rs.length = k) (hkm : k * 8 ≤ 140737488351232)
    (hro : ¬ RootsOk (nums l) rs) : Calls Try.prog 24 #[.agg #[.slice a n cap, .int .i64 top], .slice a2 k cap2] w fun e w' => e = .returned (.tuple #[.slice none 0 0, .int .i64 4]) ∧ Below w.heap.size w w' := by
  have hl := Objects.laid hv.objects
  have hl4 : l.length ≤ 400 := by
    have := hl.short
    have := hv.top1
    have := hv.top2
    have := hv.len2
    omega
  have H := Lib.hide hh
  have HV := Lib.hide hv
  have HL := Lib.hide hl
  have HI2 := Lib.hide hi2
  have HK := Lib.hide hk
  have HRO := Lib.hide hro
  clear hh hv hl hi2 hk hro
  go_enter Try.func24, Try.ntmps24
  go_wp2_with (first
    | (go_at_call 16; refine (places_yes a n cap xs top l _ (H.out.below (by repeat (first | exact Below.refl _ _ | assumption | refine Below.drew ?_ | refine below_drewN ?_ _ | refine Below.allocs ?_ | refine Below.next ?_ (by assumption) | refine Below.setCell ?_ (by dsimp only; omega) _))) HV.out).mono ?_; rintro e w1 ⟨a1, c1, rfl, ho1, hb1⟩; have HO1 := Lib.hide ho1; clear ho1; have HT := Lib.hide ((Box2.new w (.slice a n cap) (.int .i64 top) 27).next hb1); obtain ⟨q0, q1, q2, q3, q4⟩ := HT.out)
    | (go_at_call 56; refine (areRoots_any a1 l.length c1 (nums l) a2 k cap2 rs _ HO1.out.reads.2 (nums_length l) hl4 (nums_sorted HL.out.sorted) (HI2.out.below (by repeat (first | exact Below.refl _ _ | assumption | refine Below.drew ?_ | refine below_drewN ?_ _ | refine Below.allocs ?_ | refine Below.next ?_ (by assumption) | refine Below.setCell ?_ (by dsimp only; omega) _))) HK.out hkm false (by simp [HRO.out])).mono ?_; rintro e w2 ⟨rfl, rfl⟩))
  go_ret2
  exact ⟨rfl, (by repeat (first | exact Below.refl _ _ | assumption | refine Below.drew ?_ | refine below_drewN ?_ _ | refine Below.allocs ?_ | refine Below.next ?_ (by assumption) | refine Below.setCell ?_ (by dsimp only; omega) _))⟩

/-- The list of the reachable objects, in new memory. -/
def ReachYes (w : World) (xs rs : List Int) (l : List Nat) (e : Ending) (w' : World) : Prop :=
  ∃ (zs : List Int) (a : Option Addr) (c : Nat), ReachOf xs l rs zs ∧ e = .returned (.tuple #[.slice a zs.length c, .int .i64 0]) ∧ Own w' w.heap.size (.slice a zs.length c) zs ∧ Below w.heap.size w w'

theorem nums_fits {xs : List Int} {t : Nat} {l : List Nat} (hl : Laid xs t l) (ht : t ≤ 400) : ∀ x ∈ nums l, Fits x := by
  intro x hx
  obtain ⟨q, rfl, hq⟩ := place_bounds hx hl
  exact fits_small (by omega) (by omega)

set_option maxHeartbeats 1600000 in
open Lw in
theorem reach_yes (a : Option Addr) (n cap : Nat) (xs : List Int) (top : Int) (l : List Nat) (a2 : Option Addr) (k cap2 : Nat) (rs : List Int) (w : World) (hh : IsHeap w a n cap xs top) (hv : Valid xs top l) (hi2 : Ints w a2 rs) (hk : rs.length = k) (hkm : k * 8 ≤ 140737488351232)
    (hro : RootsOk (nums l) rs) : Calls Try.prog 24 #[.agg #[.slice a n cap, .int .i64 top], .slice a2 k cap2] w (ReachYes w xs rs l) := by
  have hmf : ∀ (fn : Fn) (first cap : Array Value) (w : World), (Instr.makeFunc fn first cap).run Try.prog w = .ok (.func fn first cap) w := fun _ _ _ _ => rfl
  have hl := Objects.laid hv.objects
  have ht4 : top.toNat ≤ 400 := by
    have := hv.top1
    have := hv.top2
    have := hv.len2
    omega
  have hl4 : l.length ≤ 400 := by
    have := hl.short
    omega
  have H := Lib.hide hh
  have HV := Lib.hide hv
  have HL := Lib.hide hl
  have HI2 := Lib.hide hi2
  have HK := Lib.hide hk
  have HRO := Lib.hide hro
  clear hh hv hl hi2 hk hro
  go_enter Try.func24, Try.ntmps24
  go_wp2_with (first
    | (go_at_call 16; refine (places_yes a n cap xs top l _ (H.out.below (by repeat (first | exact Below.refl _ _ | assumption | refine Below.drew ?_ | refine below_drewN ?_ _ | refine Below.allocs ?_ | refine Below.next ?_ (by assumption) | refine Below.setCell ?_ (by dsimp only; omega) _))) HV.out).mono ?_; rintro e w1 ⟨a1, c1, rfl, ho1, hb1⟩; have HO1 := Lib.hide ho1; clear ho1; have HT := Lib.hide ((Box2.new w (.slice a n cap) (.int .i64 top) 27).next hb1); obtain ⟨q0, q1, q2, q3, q4⟩ := HT.out)
    | (go_at_call 56; refine (areRoots_any a1 l.length c1 (nums l) a2 k cap2 rs _ HO1.out.reads.2 (nums_length l) hl4 (nums_sorted HL.out.sorted) (HI2.out.below (by repeat (first | exact Below.refl _ _ | assumption | refine Below.drew ?_ | refine below_drewN ?_ _ | refine Below.allocs ?_ | refine Below.next ?_ (by assumption) | refine Below.setCell ?_ (by dsimp only; omega) _))) HK.out hkm true (by simp [HRO.out])).mono ?_; rintro e w2 ⟨rfl, rfl⟩)
    | (go_at_call 57; refine (mark_any a n cap xs top l a2 k cap2 rs _ (H.out.below (by repeat (first | exact Below.refl _ _ | assumption | refine Below.drew ?_ | refine below_drewN ?_ _ | refine Below.allocs ?_ | refine Below.next ?_ (by assumption) | refine Below.setCell ?_ (by dsimp only; omega) _))) HV.out (HI2.out.below (by repeat (first | exact Below.refl _ _ | assumption | refine Below.drew ?_ | refine below_drewN ?_ _ | refine Below.allocs ?_ | refine Below.next ?_ (by assumption) | refine Below.setCell ?_ (by dsimp only; omega) _))) HK.out hkm HRO.out).mono ?_; rintro e w3 ⟨mb, n3, m, rfl, hmb, hmap, hm, hb3⟩; have HMAP := Lib.hide hmap; have HM := Lib.hide hm; have HMB := Lib.hide hmb; have HB3 := Lib.hide hb3; clear hmap hm hmb)
    | fail)
  refine (deleteFunc_any a1 l.length c1 (nums l) w3.heap.size mb n3 (w.heap.size + 1) m _ ?_ hl4 (nums_fits HL.out ht4) ⟨?_, ?_⟩ ?_).mono ?_
  · have := (HO1.out.below HB3.out).allocs (.cells #[.map (some mb)] 95)
    rw [show (w.alloc (.cells #[.slice a n cap, .int .i64 top] 27)).heap.size = w.heap.size + 1 by simp] at this
    exact this
  · exact heap_alloc_new w3 _
  · exact HMAP.out.kept (Below.heap_alloc _ _ _ HMAP.out.lt)
  · have := HB3.out.size
    have := hb1.size
    simp at this ⊢
    omega
  rintro e w4 ⟨a4, c4, rfl, ho4, hb4⟩
  have HO4 := Lib.hide ho4
  have hbw : Below w.heap.size w w4 := Below.trans (b := w3.alloc (.cells #[.map (some mb)] 95)) (by repeat (first | exact Below.refl _ _ | assumption | refine Below.drew ?_ | refine below_drewN ?_ _ | refine Below.allocs ?_ | refine Below.next ?_ (by assumption) | refine Below.setCell ?_ (by dsimp only; omega) _)) (hb4.mono (by omega))
  have HBW := Lib.hide hbw
  clear ho4 hb4 hbw
  go_wp2
  go_ret2
  exact ⟨(nums l).filter m, a4, c4, ⟨m, rfl, fun q _ => HM.out q⟩, rfl, ownsRow_base HO4.out (by omega), HBW.out⟩
end Go.Proofs.Ytpdcaoagpjcgbab

