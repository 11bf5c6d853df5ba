/-
  The walks of the reference's HeapMay and PlacesOf. It proves no statement by itself.
-/
import Derived.Test.YtpdcaoagpjcgbaaRefWalks
namespace Go.Proofs.Ytpdcaoagpjcgbaa
open Go.RowKit

open Lw in
theorem placesOf_yes (a : Option Addr) (n cap : Nat) (xs : List Int) (t : Nat) (l : List Nat) (w : World) (hi : Ints w a xs) (hx : xs.length = n) (hn : n ≤ 400) (h1 : 1 ≤ t) (ht : t ≤ n) (hl : objs xs t 1 = some l) :
    Calls Try.prog 40 #[.agg #[.slice a n cap, .int .i64 t]] w (WalkPost w l) :=
  (placesOf_any a n cap xs t w hi hx hn h1 ht).mono fun e w' h => by
    rcases h with ⟨l', hl', h⟩ | ⟨h, _⟩
    · have : l = l' := by have := hl.symm.trans hl'; injection this
      subst this
      exact h
    · rw [hl] at h; cases h
open Lw in
theorem placesOf_no (a : Option Addr) (n cap : Nat) (xs : List Int) (t : Nat) (w : World) (hi : Ints w a xs) (hx : xs.length = n) (hn : n ≤ 400) (h1 : 1 ≤ t) (ht : t ≤ n) (hl : objs xs t 1 = none) :
    Calls Try.prog 40 #[.agg #[.slice a n cap, .int .i64 t]] w fun e w' => e = .returned (.tuple #[.slice none 0 0, .bool false]) ∧ Below w.heap.size w w' :=
  (placesOf_any a n cap xs t w hi hx hn h1 ht).mono fun e w' h => by
    rcases h with ⟨l', hl', _⟩ | ⟨_, h⟩
    · rw [hl] at hl'; cases hl'
    · exact h

open Lw in
/-- The first m objects are good: their states and their fields. -/
def GoodTo (xs : List Int) (l : List Nat) (m : Nat) : Prop := ∀ i, i < m → StOk xs (l.getD i 0) ∧ ∀ k : Nat, (k : Int) < xs.getD (l.getD i 0 + 1) 0 → FieldOk l (xs.getD (l.getD i 0 + 2 + k) 0)

open Lw in
theorem valid_of_good {xs : List Int} {t : Nat} {l : List Nat} (h1 : 1 ≤ xs.length) (h2 : xs.length ≤ 400) (h3 : 1 ≤ t) (h4 : t ≤ xs.length) (hl : objs xs t 1 = some l) (hg : GoodTo xs l l.length) (hr : RestZero xs t) : Valid xs t l := by
  refine ⟨h1, h2, by omega, by omega, ⟨hl, fun p hp => ?_⟩, fun p hp k hk => ?_, hr⟩
  · obtain ⟨i, hi, rfl⟩ := List.mem_iff_getElem.1 hp
    have e : l.getD i 0 = l[i] := by simp [List.getD_eq_getElem?_getD, List.getElem?_eq_getElem hi]
    have := (hg i hi).1
    rwa [e] at this
  · obtain ⟨i, hi, rfl⟩ := List.mem_iff_getElem.1 hp
    have e : l.getD i 0 = l[i] := by simp [List.getD_eq_getElem?_getD, List.getElem?_eq_getElem hi]
    have := (hg i hi).2 k (by rw [e]; exact hk)
    rwa [e] at this

open Lw in
theorem good_of_valid {xs : List Int} {t : Nat} {l l' : List Nat} (hl : objs xs t 1 = some l) (hv : Valid xs t l') : GoodTo xs l l.length ∧ RestZero xs t := by
  have h1 := hv.objects
  have h2 := hv.rest
  rw [Int.toNat_natCast] at h1 h2
  obtain rfl : l = l' := by have := hl.symm.trans h1.1; injection this
  refine ⟨fun i hi => ?_, h2⟩
  have e : l.getD i 0 = l[i] := by simp [List.getD_eq_getElem?_getD, List.getElem?_eq_getElem hi]
  rw [e]
  exact ⟨h1.2 _ (List.getElem_mem hi), fun k hk => hv.fields _ (List.getElem_mem hi) k hk⟩

set_option maxHeartbeats 4000000 in
set_option maxRecDepth 100000 in
open Lw in
theorem heapMay_any (a : Option Addr) (n cap : Nat) (xs : List Int) (top : Int) (w : World) (hh : IsHeap w a n cap xs top) :
    Calls Try.prog 20 #[.agg #[.slice a n cap, .int .i64 top]] w (Says w (∃ l, Valid xs top l)) := by
  have hx := hh.len
  by_cases hs1 : 1 ≤ n ∧ n ≤ 400
  · obtain ⟨v1, v2⟩ := hs1
    by_cases hs2 : 1 ≤ top ∧ top ≤ n
    · obtain ⟨v3, v4⟩ := hs2
      obtain ⟨t, rfl⟩ := Int.eq_ofNat_of_zero_le (a := top) (by omega)
      have h1 : 1 ≤ t := by omega
      have h2 : t ≤ n := by omega
      have H := Lib.hide hh
      have HX := Lib.hide hx
      cases hl : objs xs t 1 with
      | none =>
        have hno : ¬ ∃ l, Valid xs (t : Int) l := by
          rintro ⟨l, hv⟩
          have := hv.objects.1
          rw [Int.toNat_natCast, hl] at this
          cases this
        have HNO := Lib.hide hno
        have HL := Lib.hide hl
        clear hh hx hno hl
        go_enter Try.func20, Try.ntmps20
        go_wp2_with (first
          | (go_at_call 39; refine (in_yes _ _ _ _ (by omega) (by omega)).mono ?_; rintro e w' ⟨rfl, rfl⟩)
          | (go_at_call 40; refine (placesOf_no a n cap xs t _ (H.out.ints.below (by repeat (first | exact Below.refl _ _ | assumption | refine Below.drew ?_ | refine below_drewN ?_ _ | refine Below.allocs ?_ | refine Below.next ?_ (by assumption) | refine Below.setCell ?_ (by dsimp only; omega) _))) HX.out v2 h1 h2 HL.out).mono ?_; rintro e w2 ⟨rfl, hb2⟩))
        go_ret
        exact .inr ⟨HNO.out, rfl, (by repeat (first | exact Below.refl _ _ | assumption | refine Below.drew ?_ | refine below_drewN ?_ _ | refine Below.allocs ?_ | refine Below.next ?_ (by assumption) | refine Below.setCell ?_ (by dsimp only; omega) _))⟩
      | some l =>
        have HL := Lib.hide hl
        have hlaid := objs_laid hl
        have hm4 : l.length ≤ 400 := by have := hlaid.short; omega
        have HLD := Lib.hide hlaid
        clear hh hx hl hlaid
        go_enter Try.func20, Try.ntmps20
        go_wp2_with (first
          | (go_at_call 39; refine (in_yes _ _ _ _ (by omega) (by omega)).mono ?_; rintro e w' ⟨rfl, rfl⟩)
          | (go_at_call 40; refine (placesOf_yes a n cap xs t l _ (H.out.ints.below (by repeat (first | exact Below.refl _ _ | assumption | refine Below.drew ?_ | refine below_drewN ?_ _ | refine Below.allocs ?_ | refine Below.next ?_ (by assumption) | refine Below.setCell ?_ (by dsimp only; omega) _))) HX.out v2 h1 h2 HL.out).mono ?_; rintro e w2 ⟨a2, c2, rfl, ho2, hb2⟩; have HO2 := Lib.hide ho2; clear ho2; obtain ⟨qc_hb2, qf_hb2, qs_hb2⟩ := bcell hb2; have hz2 := Below.past hb2))
        have b0 : w2.cell? ⟨w.heap.size, 0, none⟩ = some (.slice a n cap) := by rw [hb2.cell (p := ⟨w.heap.size, 0, none⟩) (by simp)]; go_simp
        have b1 : w2.cell? ⟨w.heap.size, 1, none⟩ = some (.int .i64 t) := by rw [hb2.cell (p := ⟨w.heap.size, 1, none⟩) (by simp)]; go_simp
        have hbw : Below w.heap.size w w2 := (by repeat (first | exact Below.refl _ _ | assumption | refine Below.drew ?_ | refine below_drewN ?_ _ | refine Below.allocs ?_ | refine Below.next ?_ (by assumption) | refine Below.setCell ?_ (by dsimp only; omega) _))
        have HI2 := Lib.hide HO2.out.reads.2
        obtain ⟨b, o, rfl, hb, hc⟩ := (H.out.ints.below hbw).at (by rw [HX.out]; omega)
        have HC := Lib.hide hc
        obtain ⟨m, hm⟩ : ∃ m, l.length = m := ⟨_, rfl⟩
        rw [hm] at hm4 ⊢
        have HM := Lib.hide hm
        clear hc hm qc_hb2 qf_hb2 qs_hb2 HO2 hb2
        go_loop [5] (fun u => ∃ k : Nat, k ≤ m ∧ u = .int .i64 k ∧ GoodTo xs l k) (fun u => m - (intOf u).toNat)
        case atStart => exact ⟨0, Nat.zero_le _, rfl, fun i hi => absurd hi (Nat.not_lt_zero _)⟩
        case round =>
          obtain ⟨k, hk, rfl, hg⟩ := hrel
          have HG := Lib.hide hg
          clear hg
          by_cases hkm : k < m
          · obtain ⟨b2, o2, rfl, hb2, hc2⟩ := HI2.out.at (by rw [nums_length, HM.out]; omega)
            have e1 := hc2 k (by rw [nums_length, HM.out]; exact hkm)
            clear hc2
            rw [nums_getD] at e1
            obtain ⟨p, hp⟩ : ∃ p, l.getD k 0 = p := ⟨_, rfl⟩
            rw [hp] at e1
            have hpl : p ∈ l := by
              rw [← hp]
              have : k < l.length := by rw [HM.out]; exact hkm
              simp [List.getD_eq_getElem?_getD, List.getElem?_eq_getElem this]
            obtain ⟨hp1, f1, f2, f3, f4⟩ := HLD.out.fit p hpl
            have e2 := HC.out (p + 1) (by rw [HX.out]; omega)
            have e0 := HC.out p (by rw [HX.out]; omega)
            have HP := Lib.hide hp
            clear hp hpl
            obtain ⟨f, hf⟩ : ∃ f, xs.getD (p + 1) 0 = f := ⟨_, rfl⟩
            rw [hf] at e2 f2 f3 f4
            have HFF := Lib.hide hf
            clear hf
            obtain ⟨f, rfl⟩ := Int.eq_ofNat_of_zero_le f2
            rw [Int.toNat_natCast] at f4
            obtain ⟨st, hst⟩ : ∃ st, xs.getD p 0 = st := ⟨_, rfl⟩
            rw [hst] at e0
            have HST := Lib.hide hst
            clear hst
            by_cases hso : 0 ≤ st ∧ st ≤ 2147483648
            · obtain ⟨s1, s2⟩ := hso
              go_wp2_with (go_at_call 39; refine (in_yes _ _ _ _ s1 s2).mono ?_; rintro e w' ⟨rfl, rfl⟩)
              go_loop [7] (fun u => ∃ j : Nat, j ≤ f ∧ u = .int .i64 ((p : Int) + 2 + (j : Int)) ∧ ∀ i, i < j → FieldOk l (xs.getD (p + 2 + i) 0)) (fun u => p + 2 + f - (intOf u).toNat)
              case atStart => exact ⟨0, Nat.zero_le _, congrArg (Value.int .i64) (by omega), fun i hi => absurd hi (Nat.not_lt_zero _)⟩
              case round =>
                obtain ⟨j, hj, rfl, hq⟩ := hrel
                have HQ := Lib.hide hq
                clear hq
                by_cases hjf : j < f
                · have e3 := HC.out (p + 2 + j) (by rw [HX.out]; omega)
                  obtain ⟨y, hy⟩ : ∃ y, xs.getD (p + 2 + j) 0 = y := ⟨_, rfl⟩
                  have hyf : Fits y := by
                    rw [← hy]
                    have h : p + 2 + j < xs.length := by rw [HX.out]; omega
                    have : xs.getD (p + 2 + j) 0 = xs[p + 2 + j] := by simp [List.getD_eq_getElem?_getD, List.getElem?_eq_getElem h]
                    rw [this]
                    exact H.out.fits _ (List.getElem_mem h)
                  rw [hy] at e3
                  have HYF := Lib.hide hyf
                  have HY := Lib.hide hy
                  clear hy hyf
                  have hbad : ¬ FieldOk l y → ¬ ∃ l, Valid xs (t : Int) l := by
                    rintro hb ⟨l', hv⟩
                    have := ((good_of_valid HL.out hv).1 k (by rw [HM.out]; exact hkm)).2 j (by rw [HP.out, HFF.out]; omega)
                    rw [HP.out, HY.out] at this
                    exact hb this
                  have HB := Lib.hide hbad
                  clear hbad
                  have hnext : FieldOk l y → ∀ i, i < j + 1 → FieldOk l (xs.getD (p + 2 + i) 0) := by
                    intro h i hi
                    rcases Nat.lt_or_ge i j with h' | h'
                    · exact HQ.out i h'
                    · obtain rfl : i = j := by omega
                      rw [HY.out]; exact h
                  have HNX := Lib.hide hnext
                  clear hnext
                  rcases Int.emod_two_eq y with hpar | hpar
                  · have C := Lib.hide (fun w => odd_any y w false (by simp [hpar]))
                    by_cases hin : -2199023255552 ≤ y ∧ y ≤ 2199023255552
                    · have hok : FieldOk l y := ⟨fun h => by omega, fun _ => hin⟩
                      have HOK := Lib.hide hok
                      obtain ⟨n1, n2⟩ := hin
                      clear hpar hok
                      go_wp2_with (first
                        | (go_at_call 41; refine (C.out _).mono ?_; rintro e w' ⟨rfl, rfl⟩)
                        | (go_at_call 39; refine (in_yes _ _ _ _ n1 n2).mono ?_; rintro e w' ⟨rfl, rfl⟩))
                      go_round
                      case rel => exact ⟨j + 1, by omega, congrArg (Value.int .i64) (by omega), HNX.out HOK.out⟩
                      case measure => simp [intOf]; omega
                    · have hno := HB.out (fun h => hin (h.2 hpar))
                      have HNO := Lib.hide hno
                      have HIN := Lib.hide hin
                      clear hpar hno hin
                      go_wp2_with (first
                        | (go_at_call 41; refine (C.out _).mono ?_; rintro e w' ⟨rfl, rfl⟩)
                        | (go_at_call 39; refine (in_no _ _ _ _ HIN.out).mono ?_; rintro e w' ⟨rfl, rfl⟩))
                      go_ret
                      exact .inr ⟨HNO.out, rfl, hbw⟩
                  · have C := Lib.hide (fun w => odd_any y w true (by simp [hpar]))
                    by_cases hy1 : y = 1
                    · have hok : FieldOk l y := ⟨fun _ => .inl hy1, fun h => by omega⟩
                      have HOK := Lib.hide hok
                      have hd : (y != 1) = false := by simpa using hy1
                      clear hpar hok hy1
                      go_wp2_with (go_at_call 41; refine (C.out _).mono ?_; rintro e w' ⟨rfl, rfl⟩)
                      go_round
                      case rel => exact ⟨j + 1, by omega, congrArg (Value.int .i64) (by omega), HNX.out HOK.out⟩
                      case measure => simp [intOf]; omega
                    · have hd : (y != 1) = true := by simpa using hy1
                      have hmem : y / 2 ∈ nums l ↔ ∃ p ∈ l, (p : Int) = y / 2 := by simp [nums]
                      by_cases hin : y / 2 ∈ nums l
                      · have hok : FieldOk l y := ⟨fun _ => .inr (hmem.1 hin), fun h => by omega⟩
                        have HOK := Lib.hide hok
                        have HIN := Lib.hide hin
                        clear hpar hok hin hmem hy1
                        go_wp2_with (first
                          | (go_at_call 41; refine (C.out _).mono ?_; rintro e w' ⟨rfl, rfl⟩)
                          | (go_at_call 43; refine (half_any y _ HYF.out).mono ?_; rintro e w' ⟨rfl, rfl⟩)
                          | (go_at_call 42; refine (has_any _ m c2 (nums l) (y / 2) _ HI2.out (by rw [nums_length]; exact HM.out) (by omega) true (decide_eq_true HIN.out)).mono ?_; rintro e w' ⟨rfl, rfl⟩))
                        go_round
                        case rel => exact ⟨j + 1, by omega, congrArg (Value.int .i64) (by omega), HNX.out HOK.out⟩
                        case measure => simp [intOf]; omega
                      · have hno := HB.out (fun h => by rcases h.1 hpar with h | h; exact hy1 h; exact hin (hmem.2 h))
                        have HNO := Lib.hide hno
                        have HIN := Lib.hide hin
                        clear hpar hno hin hmem hy1
                        go_wp2_with (first
                          | (go_at_call 41; refine (C.out _).mono ?_; rintro e w' ⟨rfl, rfl⟩)
                          | (go_at_call 43; refine (half_any y _ HYF.out).mono ?_; rintro e w' ⟨rfl, rfl⟩)
                          | (go_at_call 42; refine (has_any _ m c2 (nums l) (y / 2) _ HI2.out (by rw [nums_length]; exact HM.out) (by omega) false (decide_eq_false HIN.out)).mono ?_; rintro e w' ⟨rfl, rfl⟩))
                        go_ret
                        exact .inr ⟨HNO.out, rfl, hbw⟩
                · obtain rfl : j = f := by omega
                  go_wp2
                  go_round
                  case rel =>
                    refine ⟨k + 1, by omega, by go_num, fun i hi => ?_⟩
                    rcases Nat.lt_or_ge i k with h | h
                    · exact HG.out i h
                    · obtain rfl : i = k := by omega
                      rw [HP.out]
                      refine ⟨by unfold StOk; rw [HST.out]; exact ⟨s1, s2⟩, fun q hq' => HQ.out q ?_⟩
                      rw [HFF.out] at hq'
                      omega
                  case measure => simp [intOf]; omega
            · have hno : ¬ ∃ l, Valid xs (t : Int) l := by
                rintro ⟨l', hv⟩
                have := ((good_of_valid HL.out hv).1 k (by rw [HM.out]; exact hkm)).1
                rw [HP.out] at this
                exact hso (by rw [← HST.out]; exact this)
              have HNO := Lib.hide hno
              have HSO := Lib.hide hso
              clear hno hso
              go_wp2_with (go_at_call 39; refine (in_no _ _ _ _ HSO.out).mono ?_; rintro e w' ⟨rfl, rfl⟩)
              go_ret
              exact .inr ⟨HNO.out, rfl, hbw⟩
          · obtain rfl : k = m := by omega
            go_wp2
            go_loop [9] (fun u => ∃ j : Nat, t ≤ j ∧ j ≤ n ∧ u = .int .i64 j ∧ ∀ i, t ≤ i → i < j → xs.getD i 0 = 0) (fun u => n - (intOf u).toNat)
            case atStart => exact ⟨t, Nat.le_refl _, h2, rfl, fun i h1 h2 => by omega⟩
            case round =>
              obtain ⟨j, hj1, hj2, rfl, hq⟩ := hrel
              have HQ := Lib.hide hq
              clear hq
              by_cases hjn : j < n
              · have e3 := HC.out j (by rw [HX.out]; omega)
                obtain ⟨y, hy⟩ : ∃ y, xs.getD j 0 = y := ⟨_, rfl⟩
                rw [hy] at e3
                have HY := Lib.hide hy
                clear hy
                by_cases hy0 : y = 0
                · have hd : (y != 0) = false := by simpa using hy0
                  have HY0 := Lib.hide hy0
                  clear hy0
                  go_wp2
                  go_round
                  case rel =>
                    refine ⟨j + 1, by omega, by omega, by go_num, fun i hi1 hi2 => ?_⟩
                    rcases Nat.lt_or_ge i j with h | h
                    · exact HQ.out i hi1 h
                    · obtain rfl : i = j := by omega
                      rw [HY.out, HY0.out]
                  case measure => simp [intOf]; omega
                · have hd : (y != 0) = true := by simpa using hy0
                  have hno : ¬ ∃ l, Valid xs (t : Int) l := by
                    rintro ⟨l', hv⟩
                    have := (good_of_valid HL.out hv).2 j hj1 (by rw [HX.out]; exact hjn)
                    exact hy0 (HY.out.symm.trans this)
                  have HNO := Lib.hide hno
                  clear hno hy0
                  go_wp2
                  go_ret
                  exact .inr ⟨HNO.out, rfl, hbw⟩
              · obtain rfl : j = n := by omega
                go_wp2
                go_ret
                refine .inl ⟨⟨l, valid_of_good (by rw [HX.out]; exact v1) (by rw [HX.out]; exact v2) h1 (by rw [HX.out]; exact h2) HL.out (by rw [HM.out]; exact HG.out) (fun i hi1 hi2 => HQ.out i hi1 (by rw [HX.out] at hi2; exact hi2))⟩, rfl, hbw⟩
    · have hno : ¬ ∃ l, Valid xs top l := by
        rintro ⟨l, hv⟩
        exact hs2 ⟨hv.top1, by rw [← hx]; exact hv.top2⟩
      have HNO := Lib.hide hno
      have HS := Lib.hide hs2
      clear hh hx hno hs2
      go_enter Try.func20, Try.ntmps20
      go_wp2_with (first
        | (go_at_call 39; refine (in_yes _ _ _ _ (by omega) (by omega)).mono ?_; rintro e w' ⟨rfl, rfl⟩)
        | (go_at_call 39; refine (in_no _ _ _ _ HS.out).mono ?_; rintro e w' ⟨rfl, rfl⟩))
      go_ret
      exact .inr ⟨HNO.out, rfl, (by repeat (first | exact Below.refl _ _ | assumption | refine Below.drew ?_ | refine below_drewN ?_ _ | refine Below.allocs ?_ | refine Below.next ?_ (by assumption) | refine Below.setCell ?_ (by dsimp only; omega) _))⟩
  · have hno : ¬ ∃ l, Valid xs top l := by
      rintro ⟨l, hv⟩
      exact hs1 ⟨by rw [← hx]; exact hv.len1, by rw [← hx]; exact hv.len2⟩
    have HNO := Lib.hide hno
    have HS := Lib.hide hs1
    clear hh hx hno hs1
    go_enter Try.func20, Try.ntmps20
    go_wp2_with (go_at_call 39; refine (in_no _ _ _ _ (by have := HS.out; omega)).mono ?_; rintro e w' ⟨rfl, rfl⟩)
    go_ret
    exact .inr ⟨HNO.out, rfl, (by repeat (first | exact Below.refl _ _ | assumption | refine Below.drew ?_ | refine below_drewN ?_ _ | refine Below.allocs ?_ | refine Below.next ?_ (by assumption) | refine Below.setCell ?_ (by dsimp only; omega) _))⟩

set_option maxHeartbeats 400000 in
open Lw in
theorem placesOfRef_yes (a : Option Addr) (n cap : Nat) (xs : List Int) (top : Int) (l : List Nat) (w : World) (hh : IsHeap w a n cap xs top) (hv : Valid xs top l) :
    Calls Try.prog 22 #[.agg #[.slice a n cap, .int .i64 top]] w (PlacesYes w l) := by
  have hx := hh.len
  have v1 := hv.len1
  have v2 := hv.len2
  have v3 := hv.top1
  have v4 := hv.top2
  rw [hx] at v1 v2 v4
  have ho := hv.objects.1
  obtain ⟨t, rfl⟩ := Int.eq_ofNat_of_zero_le (a := top) (by omega)
  rw [Int.toNat_natCast] at ho
  have h1 : 1 ≤ t := by omega
  have h2 : t ≤ n := by omega
  have H := Lib.hide hh
  have HX := Lib.hide hx
  have HO := Lib.hide ho
  have HV := Lib.hide hv
  clear hh hx ho hv
  go_enter Try.func22, Try.ntmps22
  go_wp2_with (first
    | (go_at_call 20; refine (says_yes (heapMay_any a n cap xs t _ (H.out.below (by repeat (first | exact Below.refl _ _ | assumption | refine Below.drew ?_ | refine below_drewN ?_ _ | refine Below.allocs ?_ | refine Below.next ?_ (by assumption) | refine Below.setCell ?_ (by dsimp only; omega) _)))) ⟨l, HV.out⟩).mono ?_; rintro e w1 ⟨rfl, hb1⟩; obtain ⟨qc_hb1, qf_hb1, qs_hb1⟩ := bcell hb1; have hz1 := Below.past hb1)
    | (go_at_call 40; refine (placesOf_yes a n cap xs t l _ (H.out.ints.below (by repeat (first | exact Below.refl _ _ | assumption | refine Below.drew ?_ | refine below_drewN ?_ _ | refine Below.allocs ?_ | refine Below.next ?_ (by assumption) | refine Below.setCell ?_ (by dsimp only; omega) _))) HX.out v2 h1 h2 HO.out).mono ?_; rintro e w2 ⟨a2, c2, rfl, ho2, hb2⟩; have HO2 := Lib.hide ho2; clear ho2))
  go_ret2
  exact ⟨a2, c2, rfl, ownsRow_base HO2.out (Nat.le_of_lt hz1), (by repeat (first | exact Below.refl _ _ | assumption | refine Below.drew ?_ | refine below_drewN ?_ _ | refine Below.allocs ?_ | refine Below.next ?_ (by assumption) | refine Below.setCell ?_ (by dsimp only; omega) _))⟩

set_option maxHeartbeats 400000 in
open Lw in
theorem placesOfRef_no (a : Option Addr) (n cap : Nat) (xs : List Int) (top : Int) (w : World) (hh : IsHeap w a n cap xs top) (hv : ∀ l, ¬ Valid xs top l) :
    Calls Try.prog 22 #[.agg #[.slice a n cap, .int .i64 top]] w (PlacesNo w) := by
  have H := Lib.hide hh
  have HV := Lib.hide (not_exists.2 hv)
  clear hh hv
  go_enter Try.func22, Try.ntmps22
  go_wp2_with (go_at_call 20; refine (says_no (heapMay_any a n cap xs top _ (H.out.below (by repeat (first | exact Below.refl _ _ | assumption | refine Below.drew ?_ | refine below_drewN ?_ _ | refine Below.allocs ?_ | refine Below.next ?_ (by assumption) | refine Below.setCell ?_ (by dsimp only; omega) _)))) HV.out).mono ?_; rintro e w1 ⟨rfl, hb1⟩)
  go_ret2
  exact ⟨rfl, (by repeat (first | exact Below.refl _ _ | assumption | refine Below.drew ?_ | refine below_drewN ?_ _ | refine Below.allocs ?_ | refine Below.next ?_ (by assumption) | refine Below.setCell ?_ (by dsimp only; omega) _))⟩
end Go.Proofs.Ytpdcaoagpjcgbaa
