/-
  The walks of gc.Compact. It proves no statement by itself.
-/
import Derived.Test.YtpdcaoagpjcgbabMoveWalks
set_option linter.unusedVariables false
set_option linter.unusedSimpArgs false
namespace Go.Proofs.Ytpdcaoagpjcgbab
open Go.RowKit

/-- An error of Compact, and nothing beside it. -/
def CompactNo (w : World) (c : Int) (e : Ending) (w' : World) : Prop := e = .returned (.tuple #[.agg #[.slice none 0 0, .int .i64 0], .slice none 0 0, .int .i64 c]) ∧ Below w.heap.size w w'

/-- The compacted heap and the moves, in new memory. -/
def CompactYes (w : World) (n : Nat) (xs : List Int) (qs : List Nat) (e : Ending) (w' : World) : Prop :=
  ∃ (a : Option Addr) (c : Nat) (a2 : Option Addr) (c2 : Nat) (m : Int → Option Int), Dest xs qs qs.length m ∧ e = .returned (.tuple #[.agg #[.slice a n c, .int .i64 (toAt xs qs qs.length)], .slice a2 qs.length c2, .int .i64 0]) ∧
    Own w' w.heap.size (.slice a n c) (built n xs m qs qs.length) ∧ OwnM w' w.heap.size (.slice a2 qs.length c2) (planOf xs qs qs.length) ∧ Below w.heap.size w w'

theorem two_heaps (w : World) (x y r s : Value) (t : TypeId) : Box2 ((w.alloc (.cells #[x, y] t)).alloc (.cells #[r, s] t)) w.heap.size x y ∧ Box2 ((w.alloc (.cells #[x, y] t)).alloc (.cells #[r, s] t)) (w.heap.size + 1) r s := by
  refine ⟨(Box2.new w x y t).alloc _, ?_⟩
  have := Box2.new (w.alloc (.cells #[x, y] t)) r s t
  rwa [show (w.alloc (.cells #[x, y] t)).heap.size = w.heap.size + 1 by simp] at this

set_option maxHeartbeats 800000 in
open Lw in
theorem compact_bad (a : Option Addr) (n cap : Nat) (xs : List Int) (top : Int) (a2 : Option Addr) (k cap2 : Nat) (w : World) (hh : IsHeap w a n cap xs top) (hv : ∀ l, ¬ Valid xs top l) :
    Calls Try.prog 28 #[.agg #[.slice a n cap, .int .i64 top], .slice a2 k cap2] w (CompactNo w 5) := by
  have H := Lib.hide hh
  have HV := Lib.hide hv
  have HB := Lib.hide (two_heaps w (.slice a n cap) (.int .i64 top) (.slice none 0 0) (.int .i64 0) 27)
  clear hh hv
  go_enter Try.func28, Try.ntmps28
  go_wp2_with (go_at_call 16; refine (places_no a n cap xs top _ (H.out.below (by repeat (first | exact Below.refl _ _ | assumption | refine Below.drew ?_ | refine below_drewN ?_ _ | refine Below.allocs ?_ | refine Below.next ?_ (by assumption) | refine Below.setCell ?_ (by dsimp only; omega) _))) HV.out).mono ?_; rintro e w1 ⟨rfl, hb1⟩; obtain ⟨q0, q1, q2, q3, q4⟩ := HB.out.2.next hb1)
  exact bodyPost_ret (v := .tuple #[.agg #[.slice none 0 0, .int .i64 0], .slice none 0 0, .int .i64 5]) (by simp [results, Try.results28, go_sem, q0, q1]) rfl ⟨rfl, (by repeat (first | exact Below.refl _ _ | assumption | refine Below.drew ?_ | refine below_drewN ?_ _ | refine Below.allocs ?_ | refine Below.next ?_ (by assumption) | refine Below.setCell ?_ (by dsimp only; omega) _))⟩

theorem nums_pos {xs : List Int} {t : Nat} {l : List Nat} (hl : Laid xs t l) : ∀ x ∈ nums l, 1 ≤ x := by
  intro x hx
  obtain ⟨q, rfl, _⟩ := place_bounds hx hl
  have := (hl.fit q (mem_nums.1 hx)).1
  omega

set_option maxHeartbeats 800000 in
open Lw in
theorem compact_none (a : Option Addr) (n cap : Nat) (xs : List Int) (top : Int) (l : List Nat) (a2 : Option Addr) (k cap2 : Nat) (ks : List Int) (w : World) (hh : IsHeap w a n cap xs top) (hv : Valid xs top l) (hi2 : Ints w a2 ks) (hk : ks.length = k) (hkm : k * 8 ≤ 140737488351232)
    (hno : ¬ InOrder (nums l) ks) : Calls Try.prog 28 #[.agg #[.slice a n cap, .int .i64 top], .slice a2 k cap2] w (CompactNo w 4) := by
  have hl := Objects.laid hv.objects
  have hl4 : l.length ≤ 400 := by
    have := hl.short
    have := hv.top1
    have := hv.top2
    have := hv.len2
    omega
  have H := Lib.hide hh
  have HV := Lib.hide hv
  have HL := Lib.hide hl
  have HI2 := Lib.hide hi2
  have HK := Lib.hide hk
  have HNO := Lib.hide hno
  have HB := Lib.hide (two_heaps w (.slice a n cap) (.int .i64 top) (.slice none 0 0) (.int .i64 0) 27)
  clear hh hv hl hi2 hk hno
  go_enter Try.func28, Try.ntmps28
  go_wp2_with (first
    | (go_at_call 16; refine (places_yes a n cap xs top l _ (H.out.below (by repeat (first | exact Below.refl _ _ | assumption | refine Below.drew ?_ | refine below_drewN ?_ _ | refine Below.allocs ?_ | refine Below.next ?_ (by assumption) | refine Below.setCell ?_ (by dsimp only; omega) _))) HV.out).mono ?_; rintro e w1 ⟨a1, c1, rfl, ho1, hb1⟩; have HO1 := Lib.hide ho1; clear ho1; obtain ⟨q0, q1, q2, q3, q4⟩ := HB.out.2.next hb1; obtain ⟨r0, r1, r2, r3, r4⟩ := HB.out.1.next hb1)
    | (go_at_call 62; refine (areInOrder_any a1 l.length c1 (nums l) a2 k cap2 ks _ HO1.out.reads.2 (nums_length l) hl4 (nums_sorted HL.out.sorted) (nums_pos HL.out) (HI2.out.below (by repeat (first | exact Below.refl _ _ | assumption | refine Below.drew ?_ | refine below_drewN ?_ _ | refine Below.allocs ?_ | refine Below.next ?_ (by assumption) | refine Below.setCell ?_ (by dsimp only; omega) _))) HK.out hkm false (by simp [HNO.out])).mono ?_; rintro e w2 ⟨rfl, rfl⟩))
  exact bodyPost_ret (v := .tuple #[.agg #[.slice none 0 0, .int .i64 0], .slice none 0 0, .int .i64 4]) (by simp [results, Try.results28, go_sem, q0, q1]) rfl ⟨rfl, (by repeat (first | exact Below.refl _ _ | assumption | refine Below.drew ?_ | refine below_drewN ?_ _ | refine Below.allocs ?_ | refine Below.next ?_ (by assumption) | refine Below.setCell ?_ (by dsimp only; omega) _))⟩

theorem kept_length {l qs : List Nat} (h : Kept l qs) {xs : List Int} {t : Nat} (hl : Laid xs t l) : qs.length ≤ t := by
  have hb : ∀ (k : Nat) (l : List Nat), l.Pairwise (· < ·) → (∀ q ∈ l, k ≤ q ∧ q < t) → l.length ≤ t - k := by
    intro k l
    induction l generalizing k with
    | nil => intros; simp
    | cons q l ih =>
      intro hp hq
      obtain ⟨ha, hb⟩ := List.pairwise_cons.1 hp
      have := ih (q + 1) hb (fun r hr => ⟨ha r hr, (hq r (List.mem_cons_of_mem _ hr)).2⟩)
      have := hq q (by simp)
      simp
      omega
  have := hb 0 qs h.sorted (fun q hq => by have := (hl.fit q (h.sub q hq)).2.1; omega)
  omega

set_option maxHeartbeats 1600000 in
open Lw in
theorem compact_state (a : Option Addr) (n cap : Nat) (xs : List Int) (top : Int) (l qs : List Nat) (a2 : Option Addr) (k cap2 : Nat) (w : World) (hh : IsHeap w a n cap xs top) (hv : Valid xs top l) (hi2 : Ints w a2 (nums qs)) (hk : qs.length = k)
    (hq : Kept l qs) (hcl : ¬ Closed xs qs qs.length) : Calls Try.prog 28 #[.agg #[.slice a n cap, .int .i64 top], .slice a2 k cap2] w (CompactNo w 5) := by
  have hx := hh.len
  have v1 := hv.len1
  have v2 := hv.len2
  have v3 := hv.top1
  have v4 := hv.top2
  rw [hx] at v1 v2 v4
  have hl := Objects.laid hv.objects
  have ht1 : 1 ≤ top.toNat := by omega
  have ht : top.toNat ≤ n := by omega
  have hl4 : l.length ≤ 400 := by have := hl.short; omega
  have hk4 : k ≤ 400 := by have := kept_length hq hl; omega
  have H := Lib.hide hh
  have HV := Lib.hide hv
  have HL := Lib.hide hl
  have HI2 := Lib.hide hi2
  have HK := Lib.hide hk
  have HQ := Lib.hide hq
  have HRO := Lib.hide (Room.of hv.objects hq)
  have HCL := Lib.hide hcl
  have HB := Lib.hide (two_heaps w (.slice a n cap) (.int .i64 top) (.slice none 0 0) (.int .i64 0) 27)
  clear hh hv hl hi2 hk hq hcl hx
  go_enter Try.func28, Try.ntmps28
  go_wp2_with (first
    | (go_at_call 16; refine (places_yes a n cap xs top l _ (H.out.below (by repeat (first | exact Below.refl _ _ | assumption | refine Below.drew ?_ | refine below_drewN ?_ _ | refine Below.allocs ?_ | refine Below.next ?_ (by assumption) | refine Below.setCell ?_ (by dsimp only; omega) _))) HV.out).mono ?_; rintro e w1 ⟨a1, c1, rfl, ho1, hb1⟩; have HO1 := Lib.hide ho1; clear ho1; have HB1 := Lib.hide (HB.out.1.next hb1); have HR1 := Lib.hide (HB.out.2.next hb1); obtain ⟨q0, q1, q2, q3, q4⟩ := HB1.out)
    | (go_at_call 62; refine (areInOrder_any a1 l.length c1 (nums l) a2 k cap2 (nums qs) _ HO1.out.reads.2 (nums_length l) hl4 (nums_sorted HL.out.sorted) (nums_pos HL.out) (HI2.out.below (by repeat (first | exact Below.refl _ _ | assumption | refine Below.drew ?_ | refine below_drewN ?_ _ | refine Below.allocs ?_ | refine Below.next ?_ (by assumption) | refine Below.setCell ?_ (by dsimp only; omega) _))) (by rw [nums_length]; exact HK.out) (by omega) true (by simp [HQ.out.inOrder])).mono ?_; rintro e w2 ⟨rfl, rfl⟩)
    | (go_at_call 63; refine (plan_any a n cap xs top top.toNat l qs a2 k cap2 _ (H.out.below (by repeat (first | exact Below.refl _ _ | assumption | refine Below.drew ?_ | refine below_drewN ?_ _ | refine Below.allocs ?_ | refine Below.next ?_ (by assumption) | refine Below.setCell ?_ (by dsimp only; omega) _))) v2 ht1 ht HRO.out (HI2.out.below (by repeat (first | exact Below.refl _ _ | assumption | refine Below.drew ?_ | refine below_drewN ?_ _ | refine Below.allocs ?_ | refine Below.next ?_ (by assumption) | refine Below.setCell ?_ (by dsimp only; omega) _))) HK.out hk4).mono ?_; rintro e w3 ⟨a3, c3, rfl, ho3, hb3⟩; have HO3 := Lib.hide ho3; clear ho3; have HB3 := Lib.hide (HB1.out.next hb3); have HR3 := Lib.hide (HR1.out.next hb3); obtain ⟨r0, r1, r2, r3, r4⟩ := HB3.out)
    | (go_at_call 64; refine (move_any a n cap xs top top.toNat l qs a3 qs.length c3 _ (H.out.below (by repeat (first | exact Below.refl _ _ | assumption | refine Below.drew ?_ | refine below_drewN ?_ _ | refine Below.allocs ?_ | refine Below.next ?_ (by assumption) | refine Below.setCell ?_ (by dsimp only; omega) _))) v1 v2 ht1 ht HRO.out (by obtain ⟨_, _, h1, h2⟩ := HO3.out.shape; injection h1 with h1; subst h1; exact h2) rfl (by rw [HK.out]; exact hk4)).mono ?_; rintro e w4 (⟨h, _⟩ | ⟨_, rfl, hb4⟩); exact absurd h HCL.out; obtain ⟨s0, s1, s2, s3, s4⟩ := HR3.out.next hb4))
  exact bodyPost_ret (v := .tuple #[.agg #[.slice none 0 0, .int .i64 0], .slice none 0 0, .int .i64 5]) (by simp only [results, Try.results28]; go_simp) rfl ⟨rfl, (by repeat (first | exact Below.refl _ _ | assumption | refine Below.drew ?_ | refine below_drewN ?_ _ | refine Below.allocs ?_ | refine Below.next ?_ (by assumption) | refine Below.setCell ?_ (by dsimp only; omega) _))⟩

set_option maxHeartbeats 1600000 in
open Lw in
theorem compact_yes (a : Option Addr) (n cap : Nat) (xs : List Int) (top : Int) (l qs : List Nat) (a2 : Option Addr) (k cap2 : Nat) (w : World) (hh : IsHeap w a n cap xs top) (hv : Valid xs top l) (hi2 : Ints w a2 (nums qs)) (hk : qs.length = k)
    (hq : Kept l qs) (hcl : Closed xs qs qs.length) : Calls Try.prog 28 #[.agg #[.slice a n cap, .int .i64 top], .slice a2 k cap2] w (CompactYes w n xs qs) := by
  have hx := hh.len
  have v1 := hv.len1
  have v2 := hv.len2
  have v3 := hv.top1
  have v4 := hv.top2
  rw [hx] at v1 v2 v4
  have hl := Objects.laid hv.objects
  have ht1 : 1 ≤ top.toNat := by omega
  have ht : top.toNat ≤ n := by omega
  have hl4 : l.length ≤ 400 := by have := hl.short; omega
  have hk4 : k ≤ 400 := by have := kept_length hq hl; omega
  have H := Lib.hide hh
  have HV := Lib.hide hv
  have HL := Lib.hide hl
  have HI2 := Lib.hide hi2
  have HK := Lib.hide hk
  have HQ := Lib.hide hq
  have HRO := Lib.hide (Room.of hv.objects hq)
  have HCL := Lib.hide hcl
  have HB := Lib.hide (two_heaps w (.slice a n cap) (.int .i64 top) (.slice none 0 0) (.int .i64 0) 27)
  clear hh hv hl hi2 hk hq hcl hx
  go_enter Try.func28, Try.ntmps28
  go_wp2_with (first
    | (go_at_call 16; refine (places_yes a n cap xs top l _ (H.out.below (by repeat (first | exact Below.refl _ _ | assumption | refine Below.drew ?_ | refine below_drewN ?_ _ | refine Below.allocs ?_ | refine Below.next ?_ (by assumption) | refine Below.setCell ?_ (by dsimp only; omega) _))) HV.out).mono ?_; rintro e w1 ⟨a1, c1, rfl, ho1, hb1⟩; have HO1 := Lib.hide ho1; clear ho1; have HB1 := Lib.hide (HB.out.1.next hb1); have HR1 := Lib.hide (HB.out.2.next hb1); obtain ⟨q0, q1, q2, q3, q4⟩ := HB1.out)
    | (go_at_call 62; refine (areInOrder_any a1 l.length c1 (nums l) a2 k cap2 (nums qs) _ HO1.out.reads.2 (nums_length l) hl4 (nums_sorted HL.out.sorted) (nums_pos HL.out) (HI2.out.below (by repeat (first | exact Below.refl _ _ | assumption | refine Below.drew ?_ | refine below_drewN ?_ _ | refine Below.allocs ?_ | refine Below.next ?_ (by assumption) | refine Below.setCell ?_ (by dsimp only; omega) _))) (by rw [nums_length]; exact HK.out) (by omega) true (by simp [HQ.out.inOrder])).mono ?_; rintro e w2 ⟨rfl, rfl⟩)
    | (go_at_call 63; refine (plan_any a n cap xs top top.toNat l qs a2 k cap2 _ (H.out.below (by repeat (first | exact Below.refl _ _ | assumption | refine Below.drew ?_ | refine below_drewN ?_ _ | refine Below.allocs ?_ | refine Below.next ?_ (by assumption) | refine Below.setCell ?_ (by dsimp only; omega) _))) v2 ht1 ht HRO.out (HI2.out.below (by repeat (first | exact Below.refl _ _ | assumption | refine Below.drew ?_ | refine below_drewN ?_ _ | refine Below.allocs ?_ | refine Below.next ?_ (by assumption) | refine Below.setCell ?_ (by dsimp only; omega) _))) HK.out hk4).mono ?_; rintro e w3 ⟨a3, c3, rfl, ho3, hb3⟩; have HO3 := Lib.hide ho3; clear ho3; have HB3 := Lib.hide (HB1.out.next hb3); have HR3 := Lib.hide (HR1.out.next hb3); obtain ⟨r0, r1, r2, r3, r4⟩ := HB3.out)
    | (go_at_call 64; refine (move_any a n cap xs top top.toNat l qs a3 qs.length c3 _ (H.out.below (by repeat (first | exact Below.refl _ _ | assumption | refine Below.drew ?_ | refine below_drewN ?_ _ | refine Below.allocs ?_ | refine Below.next ?_ (by assumption) | refine Below.setCell ?_ (by dsimp only; omega) _))) v1 v2 ht1 ht HRO.out (by obtain ⟨_, _, h1, h2⟩ := HO3.out.shape; injection h1 with h1; subst h1; exact h2) rfl (by rw [HK.out]; exact hk4)).mono ?_; rintro e w4 (⟨_, a5, c5, m, hde, rfl, ho5, hb4⟩ | ⟨h, _⟩); rotate_left; exact absurd HCL.out h; have HDE := Lib.hide hde; have HO5 := Lib.hide ho5; clear hde ho5; obtain ⟨s0, s1, s2, s3, s4⟩ := HR3.out.next hb4))
  have hb3s := hb3.size
  have hb1s := hb1.size
  simp at hb1s
  have hfin : CompactYes w n xs qs (.returned (.tuple #[.agg #[.slice a5 n c5, .int .i64 (toAt xs qs qs.length)], .slice a3 qs.length c3, .int .i64 0])) (((w4.setCell ⟨w.heap.size + 1, 0, none⟩ (.slice a5 n c5)).setCell ⟨w.heap.size + 1, 1, none⟩ (.int .i64 (toAt xs qs qs.length))).alloc (.cells #[.slice a5 n c5, .int .i64 (toAt xs qs qs.length)] 27)) := by
    have n5 : (Value.slice a5 n c5).ownBlock ≠ some (w.heap.size + 1) := fun e => by have := (World.ownsRow.lt HO5.out _ e).1; omega
    have n3 : (Value.slice a3 qs.length c3).ownBlock ≠ some (w.heap.size + 1) := fun e => by have := (World.ownsRow.lt HO3.out _ e).1; omega
    refine ⟨a5, c5, a3, c3, m, HDE.out, rfl, ?_, ?_, ?_⟩
    · exact ownsRow_base (((HO5.out.far n5 _).far n5 _).allocs _) (by omega)
    · exact ownsRow_base (World.ownsRow.alloc (ownsRow_setCell_other (ownsRow_setCell_other (OwnM.below HO3.out hb4) n3 _) n3 _) _) (by omega)
    · exact (by repeat (first | exact Below.refl _ _ | assumption | refine Below.drew ?_ | refine below_drewN ?_ _ | refine Below.allocs ?_ | refine Below.next ?_ (by assumption) | refine Below.setCell ?_ (by dsimp only; omega) _))
  have HFIN := Lib.hide hfin
  clear hfin
  exact bodyPost_ret (v := .tuple #[.agg #[.slice a5 n c5, .int .i64 (toAt xs qs qs.length)], .slice a3 qs.length c3, .int .i64 0]) (by simp only [results, Try.results28]; go_simp) rfl HFIN.out
end Go.Proofs.Ytpdcaoagpjcgbab
