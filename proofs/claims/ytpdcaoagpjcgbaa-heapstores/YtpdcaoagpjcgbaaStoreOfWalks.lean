/-
  The walks of the reference's StoreOf. It proves no statement by itself.
-/
import Derived.Test.YtpdcaoagpjcgbaaStoreWalks
import Derived.Test.YtpdcaoagpjcgbaaCheckLaws
import Derived.Test.YtpdcaoagpjcgbaaCopyRef
import Derived.Test.YtpdcaoagpjcgbaaLoadRef
namespace Go.Proofs.Ytpdcaoagpjcgbaa
open Go.RowKit

set_option maxHeartbeats 1600000 in
theorem storeOf_err (a : Option Addr) (n cap : Nat) (top p f k m c : Int) (w : World) (hc : c ≠ 0)
    (C : ∀ w', Below w.heap.size w w' → Calls Try.prog 28 #[.agg #[.slice a n cap, .int .i64 top], .int .i64 p, .int .i64 f] w' (LoadPost w' 0 0 c)) :
    Calls Try.prog 30 #[.agg #[.slice a n cap, .int .i64 top], .int .i64 p, .int .i64 f, .agg #[.int .i64 k, .int .i64 m]] w (StoreNo w c) := by
  have HC := Lib.hide C
  have hd : (c != 0) = true := by simpa using hc
  clear C hc
  have HB := Lib.hide (three_boxes w (.slice a n cap) (.int .i64 top) (.int .i64 k) (.int .i64 m) (.slice none 0 0) (.int .i64 0) 24 40 24)
  go_enter Try.func30, Try.ntmps30
  go_wp2_with (go_at_call 28; refine (HC.out _ (by repeat (first | exact Below.refl _ _ | assumption | refine Below.drew ?_ | refine below_drewN ?_ _ | refine Below.allocs ?_ | refine Below.next ?_ (by assumption) | refine Below.setCell ?_ (by dsimp only; omega) _))).mono ?_; rintro e w1 ⟨rfl, hb1⟩; obtain ⟨q0, q1, q2, q3, q4⟩ := HB.out.2.2.next hb1)
  exact bodyPost_ret (v := .tuple #[.agg #[.slice none 0 0, .int .i64 0], .int .i64 c]) (by simp only [results, Try.results30]; go_simp) rfl ⟨rfl, (by repeat (first | exact Below.refl _ _ | assumption | refine Below.drew ?_ | refine below_drewN ?_ _ | refine Below.allocs ?_ | refine Below.next ?_ (by assumption) | refine Below.setCell ?_ (by dsimp only; omega) _))⟩

set_option maxHeartbeats 1600000 in
open Lw in
theorem storeOf_code (a : Option Addr) (n cap : Nat) (xs : List Int) (top p f k m c : Int) (l : List Nat) (w : World) (hh : IsHeap w a n cap xs top) (hv : Valid xs top l) (hf : HasField xs l p f) (hc : codeOf (nums l) k m = c) (hc0 : c ≠ 0) :
    Calls Try.prog 30 #[.agg #[.slice a n cap, .int .i64 top], .int .i64 p, .int .i64 f, .agg #[.int .i64 k, .int .i64 m]] w (StoreNo w c) := by
  have hx := hh.len
  have v2 := hv.len2
  have v3 := hv.top1
  have v4 := hv.top2
  rw [hx] at v2 v4
  obtain ⟨t, rfl⟩ := Int.eq_ofNat_of_zero_le (a := top) (by omega)
  have hl := Objects.laid hv.objects
  have ho := hv.objects.1
  rw [Int.toNat_natCast] at hl ho
  have h1 : 1 ≤ t := by omega
  have h2 : t ≤ n := by omega
  have hl4 : l.length ≤ 400 := by have := hl.short; omega
  obtain ⟨y, hy⟩ : ∃ y, xs.getD (p.toNat + 2 + f.toNat) 0 = y := ⟨_, rfl⟩
  have H := Lib.hide hh
  have HX := Lib.hide hx
  have HO := Lib.hide ho
  have HC := Lib.hide (fun w' (h : Below w.heap.size w w') => loadOf_yes a n cap xs t p f l w' (hh.below h) hv hf y hy)
  have HB := Lib.hide (three_boxes w (.slice a n cap) (.int .i64 t) (.int .i64 k) (.int .i64 m) (.slice none 0 0) (.int .i64 0) 24 40 24)
  by_cases hk : k = 0
  · subst hk
    have hr : ¬ (-1099511627776 ≤ m ∧ m ≤ 1099511627776) := fun h => hc0 (by rw [← hc]; simp [codeOf, h])
    obtain rfl : c = 2 := by rw [← hc]; simp [codeOf, hr]
    have HR := Lib.hide hr
    clear hh hx hv hf hc hc0 hl ho hy hr
    go_enter Try.func30, Try.ntmps30
    go_wp2_with (first
      | (go_at_call 28; refine (HC.out _ (by repeat (first | exact Below.refl _ _ | assumption | refine Below.drew ?_ | refine below_drewN ?_ _ | refine Below.allocs ?_ | refine Below.next ?_ (by assumption) | refine Below.setCell ?_ (by dsimp only; omega) _))).mono ?_; rintro e w1 ⟨rfl, hb1⟩; obtain ⟨q0, q1, q2, q3, q4⟩ := HB.out.1.next hb1; have HVB := Lib.hide (HB.out.2.1.next hb1); have HRB := Lib.hide (HB.out.2.2.next hb1))
      | (go_at_call 40; refine (placesOf_yes a n cap xs t l _ (H.out.ints.below (by repeat (first | exact Below.refl _ _ | assumption | refine Below.drew ?_ | refine below_drewN ?_ _ | refine Below.allocs ?_ | refine Below.next ?_ (by assumption) | refine Below.setCell ?_ (by dsimp only; omega) _))) HX.out v2 h1 h2 HO.out).mono ?_; rintro e w2 ⟨a2, c2, rfl, ho2, hb2⟩; clear ho2; obtain ⟨r0, r1, r2, r3, r4⟩ := (HVB.out.alloc _).next hb2; obtain ⟨s0, s1, s2, s3, s4⟩ := (HRB.out.alloc _).next hb2)
      | (go_at_call 39; refine (in_no _ _ _ _ HR.out).mono ?_; rintro e w3 ⟨rfl, rfl⟩))
    exact bodyPost_ret (v := .tuple #[.agg #[.slice none 0 0, .int .i64 0], .int .i64 2]) (by simp only [results, Try.results30]; go_simp) rfl ⟨rfl, (by repeat (first | exact Below.refl _ _ | assumption | refine Below.drew ?_ | refine below_drewN ?_ _ | refine Below.allocs ?_ | refine Below.next ?_ (by assumption) | refine Below.setCell ?_ (by dsimp only; omega) _))⟩
  · have hd : (k == 0) = false := by simpa using hk
    by_cases hk1 : k = 1
    · subst hk1
      have hr : ¬ (m = 0 ∨ m ∈ nums l) := fun h => hc0 (by rw [← hc]; simp [codeOf, h])
      obtain rfl : c = 4 := by rw [← hc]; simp [codeOf, hr]
      have hm0 : (m != 0) = true := by simp; exact fun h => hr (.inl h)
      have HR := Lib.hide (fun h => hr (.inr h))
      clear hh hx hv hf hc hc0 hl ho hy hr hk
      go_enter Try.func30, Try.ntmps30
      go_wp2_with (first
        | (go_at_call 28; refine (HC.out _ (by repeat (first | exact Below.refl _ _ | assumption | refine Below.drew ?_ | refine below_drewN ?_ _ | refine Below.allocs ?_ | refine Below.next ?_ (by assumption) | refine Below.setCell ?_ (by dsimp only; omega) _))).mono ?_; rintro e w1 ⟨rfl, hb1⟩; obtain ⟨q0, q1, q2, q3, q4⟩ := HB.out.1.next hb1; have HVB := Lib.hide (HB.out.2.1.next hb1); have HRB := Lib.hide (HB.out.2.2.next hb1))
        | (go_at_call 40; refine (placesOf_yes a n cap xs t l _ (H.out.ints.below (by repeat (first | exact Below.refl _ _ | assumption | refine Below.drew ?_ | refine below_drewN ?_ _ | refine Below.allocs ?_ | refine Below.next ?_ (by assumption) | refine Below.setCell ?_ (by dsimp only; omega) _))) HX.out v2 h1 h2 HO.out).mono ?_; rintro e w2 ⟨a2, c2, rfl, ho2, hb2⟩; have HO2 := Lib.hide ho2; clear ho2; obtain ⟨r0, r1, r2, r3, r4⟩ := (HVB.out.alloc _).next hb2; obtain ⟨s0, s1, s2, s3, s4⟩ := (HRB.out.alloc _).next hb2)
        | (go_at_call 42; refine (has_any a2 l.length c2 (nums l) m _ HO2.out.reads.2 (nums_length l) (by omega) false (decide_eq_false HR.out)).mono ?_; rintro e w3 ⟨rfl, rfl⟩))
      exact bodyPost_ret (v := .tuple #[.agg #[.slice none 0 0, .int .i64 0], .int .i64 4]) (by simp only [results, Try.results30]; go_simp) rfl ⟨rfl, (by repeat (first | exact Below.refl _ _ | assumption | refine Below.drew ?_ | refine below_drewN ?_ _ | refine Below.allocs ?_ | refine Below.next ?_ (by assumption) | refine Below.setCell ?_ (by dsimp only; omega) _))⟩
    · obtain rfl : c = 3 := by rw [← hc]; simp [codeOf, hk, hk1]
      have hd1 : (k == 1) = false := by simpa using hk1
      clear hh hx hv hf hc hc0 hl ho hy hk hk1
      go_enter Try.func30, Try.ntmps30
      go_wp2_with (first
        | (go_at_call 28; refine (HC.out _ (by repeat (first | exact Below.refl _ _ | assumption | refine Below.drew ?_ | refine below_drewN ?_ _ | refine Below.allocs ?_ | refine Below.next ?_ (by assumption) | refine Below.setCell ?_ (by dsimp only; omega) _))).mono ?_; rintro e w1 ⟨rfl, hb1⟩; obtain ⟨q0, q1, q2, q3, q4⟩ := HB.out.1.next hb1; have HVB := Lib.hide (HB.out.2.1.next hb1); have HRB := Lib.hide (HB.out.2.2.next hb1))
        | (go_at_call 40; refine (placesOf_yes a n cap xs t l _ (H.out.ints.below (by repeat (first | exact Below.refl _ _ | assumption | refine Below.drew ?_ | refine below_drewN ?_ _ | refine Below.allocs ?_ | refine Below.next ?_ (by assumption) | refine Below.setCell ?_ (by dsimp only; omega) _))) HX.out v2 h1 h2 HO.out).mono ?_; rintro e w2 ⟨a2, c2, rfl, ho2, hb2⟩; clear ho2; obtain ⟨r0, r1, r2, r3, r4⟩ := (HVB.out.alloc _).next hb2; obtain ⟨s0, s1, s2, s3, s4⟩ := (HRB.out.alloc _).next hb2))
      exact bodyPost_ret (v := .tuple #[.agg #[.slice none 0 0, .int .i64 0], .int .i64 3]) (by simp only [results, Try.results30]; go_simp) rfl ⟨rfl, (by repeat (first | exact Below.refl _ _ | assumption | refine Below.drew ?_ | refine below_drewN ?_ _ | refine Below.allocs ?_ | refine Below.next ?_ (by assumption) | refine Below.setCell ?_ (by dsimp only; omega) _))⟩

set_option maxHeartbeats 1600000 in
open Lw in
theorem storeOf_yes (a : Option Addr) (n cap : Nat) (xs : List Int) (top k m : Int) (p f : Nat) (l : List Nat) (w : World) (hh : IsHeap w a n cap xs top) (hnil : a = none → cap = 0) (hv : Valid xs top l) (hf : HasField xs l p f) (hc : codeOf (nums l) k m = 0) :
    Calls Try.prog 30 #[.agg #[.slice a n cap, .int .i64 top], .int .i64 p, .int .i64 f, .agg #[.int .i64 k, .int .i64 m]] w (StorePost w (xs.set (p + 2 + f) (wordOf k m)) n top) := by
  have hx := hh.len
  have v2 := hv.len2
  have v3 := hv.top1
  have v4 := hv.top2
  rw [hx] at v2 v4
  obtain ⟨t, rfl⟩ := Int.eq_ofNat_of_zero_le (a := top) (by omega)
  have hl := Objects.laid hv.objects
  have ho := hv.objects.1
  rw [Int.toNat_natCast] at hl ho
  have h1 : 1 ≤ t := by omega
  have h2 : t ≤ n := by omega
  have kc1 := hh.cap1
  have hl4 : l.length ≤ 400 := by have := hl.short; omega
  obtain ⟨m1, m2, m3⟩ := code_bounds hl (by omega) hc
  obtain ⟨p', f', hp', hf', _, _, hpf, _, _⟩ := hf.where hl
  obtain rfl : p = p' := by omega
  obtain rfl : f = f' := by omega
  obtain ⟨y, hy⟩ : ∃ y, xs.getD ((p : Int).toNat + 2 + (f : Int).toNat) 0 = y := ⟨_, rfl⟩
  have H := Lib.hide hh
  have HX := Lib.hide hx
  have HO := Lib.hide ho
  have HN := Lib.hide hnil
  have HC := Lib.hide (fun w' (h : Below w.heap.size w w') => loadOf_yes a n cap xs t p f l w' (hh.below h) hv hf y hy)
  have HB := Lib.hide (three_boxes w (.slice a n cap) (.int .i64 t) (.int .i64 k) (.int .i64 m) (.slice none 0 0) (.int .i64 0) 24 40 24)
  rcases m3 with rfl | rfl
  · have hw : wordOf 0 m = 2 * m := by simp [wordOf]
    rw [hw]
    clear hh hx hv hf hc hl ho hy hp' hf' hw hnil
    go_enter Try.func30, Try.ntmps30
    go_wp2_with (first
      | (go_at_call 28; refine (HC.out _ (by repeat (first | exact Below.refl _ _ | assumption | refine Below.drew ?_ | refine below_drewN ?_ _ | refine Below.allocs ?_ | refine Below.next ?_ (by assumption) | refine Below.setCell ?_ (by dsimp only; omega) _))).mono ?_; rintro e w1 ⟨rfl, hb1⟩; have HHB := Lib.hide (HB.out.1.next hb1); obtain ⟨q0, q1, q2, q3, q4⟩ := HHB.out; have HVB := Lib.hide (HB.out.2.1.next hb1); have HRB := Lib.hide (HB.out.2.2.next hb1))
      | (go_at_call 40; refine (placesOf_yes a n cap xs t l _ (H.out.ints.below (by repeat (first | exact Below.refl _ _ | assumption | refine Below.drew ?_ | refine below_drewN ?_ _ | refine Below.allocs ?_ | refine Below.next ?_ (by assumption) | refine Below.setCell ?_ (by dsimp only; omega) _))) HX.out v2 h1 h2 HO.out).mono ?_; rintro e w2 ⟨a2, c2, rfl, ho2, hb2⟩; clear ho2; have HHB2 := Lib.hide ((HHB.out.alloc _).next hb2); obtain ⟨u0, u1, u2, u3, u4⟩ := HHB2.out; obtain ⟨r0, r1, r2, r3, r4⟩ := (HVB.out.alloc _).next hb2; have HRB2 := Lib.hide ((HRB.out.alloc _).next hb2); obtain ⟨s0, s1, s2, s3, s4⟩ := HRB2.out)
      | (go_at_call 39; refine (in_yes _ _ _ _ m1 m2).mono ?_; rintro e w3 ⟨rfl, rfl⟩)
      | (go_at_call 24; refine (heapCopy_any a n cap xs t _ (H.out.ints.below (by repeat (first | exact Below.refl _ _ | assumption | refine Below.drew ?_ | refine below_drewN ?_ _ | refine Below.allocs ?_ | refine Below.next ?_ (by assumption) | refine Below.setCell ?_ (by dsimp only; omega) _))) HX.out (by omega) HN.out kc1).mono ?_; rintro e w4 ⟨a4, c4, rfl, ho4, hb4⟩; have HR4 := Lib.hide (HRB2.out.next hb4); obtain ⟨t0, t1, t2, t3, t4⟩ := HR4.out; obtain ⟨g, he, hg1, hg2, hgc, hgf⟩ := ho4.row (by omega); subst he; have HO4 := Lib.hide ho4; clear ho4; have e1 := hgc (p + 2 + f) (by omega); have e2 := hgf (p + 2 + f); clear hgc hgf; have hn3 : w.heap.size + 1 + 1 ≠ g := by (have := HRB2.out.lt; omega)))
    exact bodyPost_ret (v := .tuple #[.agg #[.slice (some ⟨g, 0, none⟩) n c4, .int .i64 t], .int .i64 0]) (by simp only [results, Try.results30]; go_simp) rfl
      ⟨_, _, rfl, ownsRow_base ((((HO4.out.stored (p + 2 + f) (2 * m)).far (by simp [Value.ownBlock]; omega) _).far (by simp [Value.ownBlock]; omega) _).allocs _) (Nat.le_of_lt u4), (by repeat (first | exact Below.refl _ _ | assumption | refine Below.drew ?_ | refine below_drewN ?_ _ | refine Below.allocs ?_ | refine Below.next ?_ (by assumption) | refine Below.setCell ?_ (by dsimp only; omega) _))⟩
  · have hw : wordOf 1 m = 2 * m + 1 := by simp [wordOf]
    rw [hw]
    have hm' : m = 0 ∨ m ∈ nums l := by
      rcases Classical.em (m = 0 ∨ m ∈ nums l) with h | h
      · exact h
      · exfalso; revert hc; simp [codeOf, h]
    by_cases hm0 : m = 0
    · subst hm0
      rw [show (2 * (0 : Int) + 1) = 1 by decide]
      clear hh hx hv hf hc hl ho hy hp' hf' hw hnil hm'
      go_enter Try.func30, Try.ntmps30
      go_wp2_with (first
        | (go_at_call 28; refine (HC.out _ (by repeat (first | exact Below.refl _ _ | assumption | refine Below.drew ?_ | refine below_drewN ?_ _ | refine Below.allocs ?_ | refine Below.next ?_ (by assumption) | refine Below.setCell ?_ (by dsimp only; omega) _))).mono ?_; rintro e w1 ⟨rfl, hb1⟩; have HHB := Lib.hide (HB.out.1.next hb1); obtain ⟨q0, q1, q2, q3, q4⟩ := HHB.out; have HVB := Lib.hide (HB.out.2.1.next hb1); have HRB := Lib.hide (HB.out.2.2.next hb1))
        | (go_at_call 40; refine (placesOf_yes a n cap xs t l _ (H.out.ints.below (by repeat (first | exact Below.refl _ _ | assumption | refine Below.drew ?_ | refine below_drewN ?_ _ | refine Below.allocs ?_ | refine Below.next ?_ (by assumption) | refine Below.setCell ?_ (by dsimp only; omega) _))) HX.out v2 h1 h2 HO.out).mono ?_; rintro e w2 ⟨a2, c2, rfl, ho2, hb2⟩; clear ho2; have HHB2 := Lib.hide ((HHB.out.alloc _).next hb2); obtain ⟨u0, u1, u2, u3, u4⟩ := HHB2.out; obtain ⟨r0, r1, r2, r3, r4⟩ := (HVB.out.alloc _).next hb2; have HRB2 := Lib.hide ((HRB.out.alloc _).next hb2); obtain ⟨s0, s1, s2, s3, s4⟩ := HRB2.out)
        | (go_at_call 24; refine (heapCopy_any a n cap xs t _ (H.out.ints.below (by repeat (first | exact Below.refl _ _ | assumption | refine Below.drew ?_ | refine below_drewN ?_ _ | refine Below.allocs ?_ | refine Below.next ?_ (by assumption) | refine Below.setCell ?_ (by dsimp only; omega) _))) HX.out (by omega) HN.out kc1).mono ?_; rintro e w4 ⟨a4, c4, rfl, ho4, hb4⟩; have HR4 := Lib.hide (HRB2.out.next hb4); obtain ⟨t0, t1, t2, t3, t4⟩ := HR4.out; obtain ⟨g, he, hg1, hg2, hgc, hgf⟩ := ho4.row (by omega); subst he; have HO4 := Lib.hide ho4; clear ho4; have e1 := hgc (p + 2 + f) (by omega); have e2 := hgf (p + 2 + f); clear hgc hgf; have hn3 : w.heap.size + 1 + 1 ≠ g := by (have := HRB2.out.lt; omega)))
      exact bodyPost_ret (v := .tuple #[.agg #[.slice (some ⟨g, 0, none⟩) n c4, .int .i64 t], .int .i64 0]) (by simp only [results, Try.results30]; go_simp) rfl
        ⟨_, _, rfl, ownsRow_base ((((HO4.out.stored (p + 2 + f) 1).far (by simp [Value.ownBlock]; omega) _).far (by simp [Value.ownBlock]; omega) _).allocs _) (Nat.le_of_lt u4), (by repeat (first | exact Below.refl _ _ | assumption | refine Below.drew ?_ | refine below_drewN ?_ _ | refine Below.allocs ?_ | refine Below.next ?_ (by assumption) | refine Below.setCell ?_ (by dsimp only; omega) _))⟩
    · have hmm : m ∈ nums l := hm'.resolve_left hm0
      have hd : (m != 0) = true := by simpa using hm0
      have HM := Lib.hide hmm
      clear hh hx hv hf hc hl ho hy hp' hf' hw hnil hm' hm0 hmm
      go_enter Try.func30, Try.ntmps30
      go_wp2_with (first
        | (go_at_call 28; refine (HC.out _ (by repeat (first | exact Below.refl _ _ | assumption | refine Below.drew ?_ | refine below_drewN ?_ _ | refine Below.allocs ?_ | refine Below.next ?_ (by assumption) | refine Below.setCell ?_ (by dsimp only; omega) _))).mono ?_; rintro e w1 ⟨rfl, hb1⟩; have HHB := Lib.hide (HB.out.1.next hb1); obtain ⟨q0, q1, q2, q3, q4⟩ := HHB.out; have HVB := Lib.hide (HB.out.2.1.next hb1); have HRB := Lib.hide (HB.out.2.2.next hb1))
        | (go_at_call 40; refine (placesOf_yes a n cap xs t l _ (H.out.ints.below (by repeat (first | exact Below.refl _ _ | assumption | refine Below.drew ?_ | refine below_drewN ?_ _ | refine Below.allocs ?_ | refine Below.next ?_ (by assumption) | refine Below.setCell ?_ (by dsimp only; omega) _))) HX.out v2 h1 h2 HO.out).mono ?_; rintro e w2 ⟨a2, c2, rfl, ho2, hb2⟩; have HO2 := Lib.hide ho2; clear ho2; have HHB2 := Lib.hide ((HHB.out.alloc _).next hb2); obtain ⟨u0, u1, u2, u3, u4⟩ := HHB2.out; obtain ⟨r0, r1, r2, r3, r4⟩ := (HVB.out.alloc _).next hb2; have HRB2 := Lib.hide ((HRB.out.alloc _).next hb2); obtain ⟨s0, s1, s2, s3, s4⟩ := HRB2.out)
        | (go_at_call 42; refine (has_any a2 l.length c2 (nums l) m _ HO2.out.reads.2 (nums_length l) (by omega) true (decide_eq_true HM.out)).mono ?_; rintro e w3 ⟨rfl, rfl⟩)
        | (go_at_call 24; refine (heapCopy_any a n cap xs t _ (H.out.ints.below (by repeat (first | exact Below.refl _ _ | assumption | refine Below.drew ?_ | refine below_drewN ?_ _ | refine Below.allocs ?_ | refine Below.next ?_ (by assumption) | refine Below.setCell ?_ (by dsimp only; omega) _))) HX.out (by omega) HN.out kc1).mono ?_; rintro e w4 ⟨a4, c4, rfl, ho4, hb4⟩; have HR4 := Lib.hide (HRB2.out.next hb4); obtain ⟨t0, t1, t2, t3, t4⟩ := HR4.out; obtain ⟨g, he, hg1, hg2, hgc, hgf⟩ := ho4.row (by omega); subst he; have HO4 := Lib.hide ho4; clear ho4; have e1 := hgc (p + 2 + f) (by omega); have e2 := hgf (p + 2 + f); clear hgc hgf; have hn3 : w.heap.size + 1 + 1 ≠ g := by (have := HRB2.out.lt; omega)))
      exact bodyPost_ret (v := .tuple #[.agg #[.slice (some ⟨g, 0, none⟩) n c4, .int .i64 t], .int .i64 0]) (by simp only [results, Try.results30]; go_simp) rfl
        ⟨_, _, rfl, ownsRow_base ((((HO4.out.stored (p + 2 + f) (2 * m + 1)).far (by simp [Value.ownBlock]; omega) _).far (by simp [Value.ownBlock]; omega) _).allocs _) (Nat.le_of_lt u4), (by repeat (first | exact Below.refl _ _ | assumption | refine Below.drew ?_ | refine below_drewN ?_ _ | refine Below.allocs ?_ | refine Below.next ?_ (by assumption) | refine Below.setCell ?_ (by dsimp only; omega) _))⟩
end Go.Proofs.Ytpdcaoagpjcgbaa
