/-
  The walk of the law on gc.Compact. It proves no statement by itself.
-/
import Derived.Test.YtpdcaoagpjcgbaaClosedRef
import Derived.Test.YtpdcaoagpjcgbaaCheckLaws
import Derived.Test.YtpdcaoagpjcgbaaCopyRef
import Derived.Test.YtpdcaoagpjcgbaaArgInts
namespace Go.Proofs.Ytpdcaoagpjcgbaa
open Go.RowKit

set_option maxHeartbeats 800000 in
theorem sameMoves_same (a b : Option Addr) (n ca cb : Nat) (ps : List (Nat × Nat)) (w : World) (ha : Moves w a ps) (hb : Moves w b ps) (hn : ps.length = n) (hl : n ≤ 1000) :
    Calls Try.prog 37 #[.slice a n ca, .slice b n cb] w fun e w' => e = .returned (.bool true) ∧ Below w.heap.size w w' := by
  rcases ha with rfl | ⟨ba, oa, rfl, hla, hca⟩
  · simp only [List.length_nil] at hn
    subst hn
    go_enter Try.func37, Try.ntmps37
    go_wp2
    refine wp_loop_rounds 1 ?_; rw [rounds_succ]
    go_wp2
    go_ret
    exact ⟨rfl, Below.refl _ _⟩
  rcases hb with rfl | ⟨bb, ob, rfl, hlb, hcb⟩
  · simp only [List.length_nil] at hn
    subst hn
    go_enter Try.func37, Try.ntmps37
    go_wp2
    refine wp_loop_rounds 1 ?_; rw [rounds_succ]
    go_wp2
    go_ret
    exact ⟨rfl, Below.refl _ _⟩
  rw [hn] at hca hcb
  have HCA := Lib.hide hca
  have HCB := Lib.hide hcb
  clear hn hca hcb
  go_enter Try.func37, Try.ntmps37
  go_wp2
  go_loopw [5] (fun i wr => ∃ k m : Nat, k ≤ n ∧ i = .int .i64 k ∧ wr = w.drewN m) (fun i _ => n - (intOf i).toNat)
  case atStart => exact ⟨0, 0, Nat.zero_le _, rfl, rfl⟩
  case round =>
    obtain ⟨k, m, hk, rfl, rfl⟩ := hrel
    by_cases hlt : k < n
    · have h1 := (HCA.out k hlt).1
      have h2 := (HCA.out k hlt).2
      have h3 := (HCB.out k hlt).1
      have h4 := (HCB.out k hlt).2
      generalize ((ps.getD k (0, 0)).1 : Int) = x at *
      generalize ((ps.getD k (0, 0)).2 : Int) = y at *
      have h5 : (x == x) = true := by simp
      have h6 : (y == y) = true := by simp
      have h7 : (x != x) = false := by simp
      have h8 : (y != y) = false := by simp
      go_wp2
      go_quiet (fail)
      go_wp2
      go_roundw
      case rel => exact ⟨k + 1, _, by omega, by go_num, rfl⟩
      case measure => simp [intOf]; omega
    · go_wp2
      go_ret
      exact ⟨rfl, below_drewN (Below.refl _ _) _⟩

open Lw in
/-- gc.Compact and the reference hand back the same: both a heap and moves, or both one and the same error. -/
theorem compacts_same (a : Option Addr) (n cap : Nat) (xs : List Int) (top : Int) (a2 : Option Addr) (k cap2 : Nat) (ks : List Int) (w : World) (hh : IsHeap w a n cap xs top) (hi2 : Ints w a2 ks) (hk : ks.length = k) (hkm : k * 8 ≤ 140737488351232) :
    (∃ (ys : List Int) (t : Nat) (ps : List (Nat × Nat)), ys.length = n ∧ ps.length ≤ 400 ∧
      (∀ a' cap' w', Below w.heap.size w w' → IsHeap w' a' n cap' xs top → Calls Try.prog 35 #[.agg #[.slice a' n cap', .int .i64 top], .slice a2 k cap2] w' (fun e w'' => ∃ b c b2 c2, e = .returned (.tuple #[.agg #[.slice b n c, .int .i64 t], .slice b2 ps.length c2, .int .i64 0]) ∧ Own w'' w'.heap.size (.slice b n c) ys ∧ OwnM w'' w'.heap.size (.slice b2 ps.length c2) ps ∧ Below w'.heap.size w' w'')) ∧
      (∀ w', Below w.heap.size w w' → Calls Try.prog 36 #[.agg #[.slice a n cap, .int .i64 top], .slice a2 k cap2] w' (fun e w'' => ∃ b c b2 c2, e = .returned (.tuple #[.agg #[.slice b n c, .int .i64 t], .slice b2 ps.length c2, .int .i64 0]) ∧ Own w'' w'.heap.size (.slice b n c) ys ∧ OwnM w'' w'.heap.size (.slice b2 ps.length c2) ps ∧ Below w'.heap.size w' w''))) ∨
    (∃ c : Int, (∀ a' cap' w', Below w.heap.size w w' → IsHeap w' a' n cap' xs top → Calls Try.prog 35 #[.agg #[.slice a' n cap', .int .i64 top], .slice a2 k cap2] w' (CompactNo w' c)) ∧
      (∀ w', Below w.heap.size w w' → Calls Try.prog 36 #[.agg #[.slice a n cap, .int .i64 top], .slice a2 k cap2] w' (CompactNo w' c))) := by
  by_cases hv : ∃ l, Valid xs top l
  · obtain ⟨l, hv⟩ := hv
    have hl := Objects.laid hv.objects
    by_cases ho : InOrder (nums l) ks
    · obtain ⟨qs, rfl, hq⟩ := ho.kept
      rw [nums_length] at hk
      have hql : qs.length ≤ 400 := by
        have := kept_length hq hl
        have := hv.top1
        have := hv.top2
        have := hv.len2
        omega
      by_cases hcl : Closed xs qs qs.length
      · obtain ⟨m, hde⟩ := Dest.exists (xs := xs) hq.sorted (fun q h => by have := (hl.fit q (hq.sub q h)).1; omega) qs.length (Nat.le_refl _)
        have hro := Room.of hv.objects hq
        have hx := hh.len
        refine .inl ⟨built n xs m qs qs.length, toAt xs qs qs.length, planOf xs qs qs.length, ?_, by rw [planOf_length]; exact hql, fun a' cap' w' hb h => ?_, fun w' hb => ?_⟩
        · have h1 := hv.top1
          have h2 := hv.top2
          exact hro.built_length (by omega) (by omega) hx m (Nat.le_refl _)
        · refine (compact_yes a' n cap' xs top l qs a2 k cap2 w' h hv (hi2.below hb) hk hq hcl).mono ?_
          rintro e w'' ⟨b, c, b2, c2, m', hde', rfl, h1, h2, h3⟩
          obtain rfl := hde.unique hde'
          exact ⟨b, c, b2, c2, by rw [planOf_length], h1, by rw [planOf_length]; exact h2, h3⟩
        · refine (closedOf_any a n cap xs top l a2 k cap2 (nums qs) w' (hh.below hb) hv (hi2.below hb) (by rw [nums_length]; exact hk) hkm).mono ?_
          rintro e w'' (⟨h, _⟩ | ⟨qs', hqs, hq', ⟨_, b, c, b2, c2, m', hde', rfl, h1, h2, h3⟩ | ⟨h, _⟩⟩)
          · exact absurd ho h
          · have hqq : qs' = qs := by
              have := congrArg (List.map Int.toNat) hqs
              simpa [nums, List.map_map, Function.comp_def] using this.symm
            subst hqq
            obtain rfl := hde.unique hde'
            exact ⟨b, c, b2, c2, by rw [planOf_length], h1, by rw [planOf_length]; exact h2, h3⟩
          · have hqq : qs' = qs := by
              have := congrArg (List.map Int.toNat) hqs
              simpa [nums, List.map_map, Function.comp_def] using this.symm
            subst hqq
            exact absurd hcl h
      · refine .inr ⟨5, fun a' cap' w' hb h => compact_state a' n cap' xs top l qs a2 k cap2 w' h hv (hi2.below hb) hk hq hcl, fun w' hb => ?_⟩
        refine (closedOf_any a n cap xs top l a2 k cap2 (nums qs) w' (hh.below hb) hv (hi2.below hb) (by rw [nums_length]; exact hk) hkm).mono ?_
        rintro e w'' (⟨h, _⟩ | ⟨qs', hqs, hq', ⟨h, _⟩ | ⟨_, h⟩⟩)
        · exact absurd ho h
        · have hqq : qs' = qs := by
            have := congrArg (List.map Int.toNat) hqs
            simpa [nums, List.map_map, Function.comp_def] using this.symm
          subst hqq
          exact absurd h hcl
        · exact h
    · refine .inr ⟨4, fun a' cap' w' hb h => compact_none a' n cap' xs top l a2 k cap2 ks w' h hv (hi2.below hb) hk hkm ho, fun w' hb => ?_⟩
      refine (closedOf_any a n cap xs top l a2 k cap2 ks w' (hh.below hb) hv (hi2.below hb) hk hkm).mono ?_
      rintro e w'' (⟨_, h⟩ | ⟨qs', hqs, hq', _⟩)
      · exact h
      · exact absurd (by rw [hqs]; exact hq'.inOrder) ho
  · exact .inr ⟨5, fun a' cap' w' hb h => compact_bad a' n cap' xs top a2 k cap2 w' h (not_exists.1 hv), fun w' hb => closedOf_bad a n cap xs top a2 k cap2 w' (hh.below hb) (not_exists.1 hv)⟩

set_option maxHeartbeats 1600000 in
theorem gcCompacts.walk (a : Option Addr) (cap : Nat) (xs : List Int) (top : Int) (hc : xs.length ≤ cap) (hr : cap * 8 ≤ 140737488351232) (hf : ∀ n ∈ xs, Fits n) (ht : Fits top) (hnil : a = none → cap = 0)
    (a2 : Option Addr) (cap2 : Nat) (ks : List Int) (hc2 : ks.length ≤ cap2) (hr2 : cap2 * 8 ≤ 140737488351232) (_ : ∀ n ∈ ks, Fits n) (_ : a2 = none → cap2 = 0) (w : World) (hi : Ints w a xs) (hi2 : Ints w a2 ks) :
    Calls Try.prog 13 #[.agg #[.slice a xs.length cap, .int .i64 top], .slice a2 ks.length cap2] w fun e w' => e = .returned (.bool true) ∧ Below w.heap.size w w' := by
  have hh := isHeap_of hc hr hf ht hi
  obtain ⟨n, hn⟩ : ∃ n, xs.length = n := ⟨_, rfl⟩
  obtain ⟨k, hk⟩ : ∃ k, ks.length = k := ⟨_, rfl⟩
  rw [hn] at hh hc ⊢
  rw [hk] at hc2 ⊢
  have hs := compacts_same a n cap xs top a2 k cap2 ks w hh hi2 hk (by omega)
  have H := Lib.hide hh
  have HN := Lib.hide hn
  have HF := Lib.hide hf
  have HT := Lib.hide ht
  have HNIL := Lib.hide hnil
  have HI2 := Lib.hide hi2
  have hn8 : n * 8 ≤ 140737488355328 := by omega
  clear hh hn hk hf ht hnil hi hi2
  rcases hs with ⟨ys, t, ps, hy, hp4, h1, h2⟩ | ⟨c, h1, h2⟩
  · have H1 := Lib.hide h1
    have H2 := Lib.hide h2
    have HY := Lib.hide hy
    obtain ⟨pl, hpl⟩ : ∃ pl, ps.length = pl := ⟨_, rfl⟩
    rw [hpl] at H1 H2 hp4
    have HPL := Lib.hide hpl
    clear h1 h2 hy hpl
    have htt : ((t : Int) == (t : Int)) = true := by simp
    go_enter Try.func13, Try.ntmps13
    go_wp2_with (first
      | (go_at_call 24; refine (heapCopy_any a n cap xs top _ (H.out.ints.below (by repeat (first | exact Below.refl _ _ | assumption | refine Below.drew ?_ | refine below_drewN ?_ _ | refine Below.allocs ?_ | refine Below.next ?_ (by assumption) | refine Below.setCell ?_ (by dsimp only; omega) _))) HN.out hn8 HNIL.out hc).mono ?_; rintro e w1 ⟨a1, c1, rfl, ho1, hb1⟩; have HH1 := Lib.hide ((Box2.new w (.slice a n cap) (.int .i64 top) 24).next hb1); have HO1 := Lib.hide ho1; clear ho1)
      | (go_at_call 35; refine (H1.out a1 c1 _ (by repeat (first | exact Below.refl _ _ | assumption | refine Below.drew ?_ | refine below_drewN ?_ _ | refine Below.allocs ?_ | refine Below.next ?_ (by assumption) | refine Below.setCell ?_ (by dsimp only; omega) _)) ((HO1.out.isHeap HF.out HT.out).below (by repeat (first | exact Below.refl _ _ | assumption | refine Below.drew ?_ | refine below_drewN ?_ _ | refine Below.allocs ?_ | refine Below.next ?_ (by assumption) | refine Below.setCell ?_ (by dsimp only; omega) _)))).mono ?_; rintro e w2 ⟨a3, c3, a4, c4, rfl, ho2, hm2, hb2⟩; have HK2 := Lib.hide ((Box2.new w1 (.slice a1 n c1) (.int .i64 top) 24).next hb2); have HH2 := Lib.hide ((HH1.out.alloc _).next hb2); obtain ⟨r0, r1, r2, r3, r4⟩ := HH2.out; have HO2 := Lib.hide ho2; have HM2 := Lib.hide hm2; clear ho2 hm2)
      | (go_at_call 36; refine (H2.out _ (by repeat (first | exact Below.refl _ _ | assumption | refine Below.drew ?_ | refine below_drewN ?_ _ | refine Below.allocs ?_ | refine Below.next ?_ (by assumption) | refine Below.setCell ?_ (by dsimp only; omega) _))).mono ?_; rintro e w3 ⟨a5, c5, a6, c6, rfl, ho3, hm3, hb3⟩; have HA3 := Lib.hide ((Box2.new w2 (.slice a3 n c3) (.int .i64 t) 24).next hb3); obtain ⟨t0, t1, t2, t3, t4⟩ := HA3.out; have HK3 := Lib.hide ((HK2.out.alloc _).next hb3); have HH3 := Lib.hide ((HH2.out.alloc _).next hb3); have HO3 := Lib.hide ho3; have HM3 := Lib.hide hm3; clear ho3 hm3)
      | (go_at_call 17; with_reducible refine (sameHeap_same a3 a5 n c3 c5 ys t _ (HO2.out.reads.2.below (by repeat (first | exact Below.refl _ _ | assumption | refine Below.drew ?_ | refine below_drewN ?_ _ | refine Below.allocs ?_ | refine Below.next ?_ (by assumption) | refine Below.setCell ?_ (by dsimp only; omega) _))) (HO3.out.reads.2.below (by repeat (first | exact Below.refl _ _ | assumption | refine Below.drew ?_ | refine below_drewN ?_ _ | refine Below.allocs ?_ | refine Below.next ?_ (by assumption) | refine Below.setCell ?_ (by dsimp only; omega) _))) HY.out hn8).mono ?_; rintro e w4 ⟨rfl, hb4⟩; have HK4 := Lib.hide ((HK3.out.alloc _).next hb4); have HH4 := Lib.hide ((HH3.out.alloc _).next hb4))
      | (go_at_call 37; refine (sameMoves_same a4 a6 pl c4 c6 ps _ (Moves.below (by obtain ⟨_, _, h1, h2⟩ := HM2.out.shape; have h3 := (Value.slice.inj h1).1; subst h3; exact h2) (by repeat (first | exact Below.refl _ _ | assumption | refine Below.drew ?_ | refine below_drewN ?_ _ | refine Below.allocs ?_ | refine Below.next ?_ (by assumption) | refine Below.setCell ?_ (by dsimp only; omega) _))) (Moves.below (by obtain ⟨_, _, h1, h2⟩ := HM3.out.shape; have h3 := (Value.slice.inj h1).1; subst h3; exact h2) (by repeat (first | exact Below.refl _ _ | assumption | refine Below.drew ?_ | refine below_drewN ?_ _ | refine Below.allocs ?_ | refine Below.next ?_ (by assumption) | refine Below.setCell ?_ (by dsimp only; omega) _))) HPL.out (by omega)).mono ?_; rintro e w5 ⟨rfl, hb5⟩; obtain ⟨u0, u1, u2, u3, u4⟩ := HK4.out.next hb5; obtain ⟨v0, v1, v2, v3, v4⟩ := HH4.out.next hb5)
      | (go_at_call 17; with_reducible refine (sameHeap_same a1 a n c1 cap xs top _ (HO1.out.reads.2.below (by repeat (first | exact Below.refl _ _ | assumption | refine Below.drew ?_ | refine below_drewN ?_ _ | refine Below.allocs ?_ | refine Below.next ?_ (by assumption) | refine Below.setCell ?_ (by dsimp only; omega) _))) (H.out.ints.below (by repeat (first | exact Below.refl _ _ | assumption | refine Below.drew ?_ | refine below_drewN ?_ _ | refine Below.allocs ?_ | refine Below.next ?_ (by assumption) | refine Below.setCell ?_ (by dsimp only; omega) _))) HN.out hn8).mono ?_; rintro e w6 ⟨rfl, hb6⟩))
    go_ret
    exact ⟨rfl, (by repeat (first | exact Below.refl _ _ | assumption | refine Below.drew ?_ | refine below_drewN ?_ _ | refine Below.allocs ?_ | refine Below.next ?_ (by assumption) | refine Below.setCell ?_ (by dsimp only; omega) _))⟩
  · have H1 := Lib.hide h1
    have H2 := Lib.hide h2
    clear h1 h2
    have hpp : (c == c) = true := by simp
    go_enter Try.func13, Try.ntmps13
    go_wp2_with (first
      | (go_at_call 24; refine (heapCopy_any a n cap xs top _ (H.out.ints.below (by repeat (first | exact Below.refl _ _ | assumption | refine Below.drew ?_ | refine below_drewN ?_ _ | refine Below.allocs ?_ | refine Below.next ?_ (by assumption) | refine Below.setCell ?_ (by dsimp only; omega) _))) HN.out hn8 HNIL.out hc).mono ?_; rintro e w1 ⟨a1, c1, rfl, ho1, hb1⟩; have HH1 := Lib.hide ((Box2.new w (.slice a n cap) (.int .i64 top) 24).next hb1); have HO1 := Lib.hide ho1; clear ho1)
      | (go_at_call 35; refine (H1.out a1 c1 _ (by repeat (first | exact Below.refl _ _ | assumption | refine Below.drew ?_ | refine below_drewN ?_ _ | refine Below.allocs ?_ | refine Below.next ?_ (by assumption) | refine Below.setCell ?_ (by dsimp only; omega) _)) ((HO1.out.isHeap HF.out HT.out).below (by repeat (first | exact Below.refl _ _ | assumption | refine Below.drew ?_ | refine below_drewN ?_ _ | refine Below.allocs ?_ | refine Below.next ?_ (by assumption) | refine Below.setCell ?_ (by dsimp only; omega) _)))).mono ?_; rintro e w2 ⟨rfl, hb2⟩; have HK2 := Lib.hide ((Box2.new w1 (.slice a1 n c1) (.int .i64 top) 24).next hb2); have HH2 := Lib.hide ((HH1.out.alloc _).next hb2); obtain ⟨r0, r1, r2, r3, r4⟩ := HH2.out)
      | (go_at_call 36; refine (H2.out _ (by repeat (first | exact Below.refl _ _ | assumption | refine Below.drew ?_ | refine below_drewN ?_ _ | refine Below.allocs ?_ | refine Below.next ?_ (by assumption) | refine Below.setCell ?_ (by dsimp only; omega) _))).mono ?_; rintro e w3 ⟨rfl, hb3⟩; have HA3 := Lib.hide ((Box2.new w2 (.slice none 0 0) (.int .i64 0) 24).next hb3); obtain ⟨t0, t1, t2, t3, t4⟩ := HA3.out; have HK3 := Lib.hide ((HK2.out.alloc _).next hb3); have HH3 := Lib.hide ((HH2.out.alloc _).next hb3))
      | (go_at_call 17; with_reducible refine (sameHeap_same none none 0 0 0 [] 0 _ (Ints.nil _ _) (Ints.nil _ _) List.length_nil (by omega)).mono ?_; rintro e w4 ⟨rfl, hb4⟩; have HK4 := Lib.hide ((HK3.out.alloc _).next hb4); have HH4 := Lib.hide ((HH3.out.alloc _).next hb4))
      | (go_at_call 37; refine (sameMoves_same none none 0 0 0 [] _ (.inl rfl) (.inl rfl) rfl (by omega)).mono ?_; rintro e w5 ⟨rfl, hb5⟩; obtain ⟨u0, u1, u2, u3, u4⟩ := HK4.out.next hb5; obtain ⟨v0, v1, v2, v3, v4⟩ := HH4.out.next hb5)
      | (go_at_call 17; with_reducible refine (sameHeap_same a1 a n c1 cap xs top _ (HO1.out.reads.2.below (by repeat (first | exact Below.refl _ _ | assumption | refine Below.drew ?_ | refine below_drewN ?_ _ | refine Below.allocs ?_ | refine Below.next ?_ (by assumption) | refine Below.setCell ?_ (by dsimp only; omega) _))) (H.out.ints.below (by repeat (first | exact Below.refl _ _ | assumption | refine Below.drew ?_ | refine below_drewN ?_ _ | refine Below.allocs ?_ | refine Below.next ?_ (by assumption) | refine Below.setCell ?_ (by dsimp only; omega) _))) HN.out hn8).mono ?_; rintro e w6 ⟨rfl, hb6⟩))
    go_ret
    exact ⟨rfl, (by repeat (first | exact Below.refl _ _ | assumption | refine Below.drew ?_ | refine below_drewN ?_ _ | refine Below.allocs ?_ | refine Below.next ?_ (by assumption) | refine Below.setCell ?_ (by dsimp only; omega) _))⟩
end Go.Proofs.Ytpdcaoagpjcgbaa
