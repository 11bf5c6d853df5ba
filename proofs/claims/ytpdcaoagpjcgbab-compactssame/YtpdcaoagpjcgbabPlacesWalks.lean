/-
  The walks of heap.Places and heap.Check. It proves no statement by itself.
-/
import Derived.Test.YtpdcaoagpjcgbabRestWalks
set_option linter.unusedVariables false
set_option linter.unusedSimpArgs false
namespace Go.Proofs.Ytpdcaoagpjcgbab
open Go.RowKit

theorem says_yes {P : Program} {f : FuncId} {args : Array Value} {w : World} {p : Prop} (h : Calls P f args w (Says w p)) (hp : p) : Calls P f args w fun e w' => e = .returned (.bool true) ∧ Below w.heap.size w w' :=
  h.mono fun _ _ hs => by
    rcases hs with ⟨_, h1, h2⟩ | ⟨hn, _⟩
    · exact ⟨h1, h2⟩
    · exact absurd hp hn
theorem says_no {P : Program} {f : FuncId} {args : Array Value} {w : World} {p : Prop} (h : Calls P f args w (Says w p)) (hp : ¬ p) : Calls P f args w fun e w' => e = .returned (.bool false) ∧ Below w.heap.size w w' :=
  h.mono fun _ _ hs => by
    rcases hs with ⟨hn, _⟩ | ⟨_, h1, h2⟩
    · exact absurd hn hp
    · exact ⟨h1, h2⟩

open Lw in
theorem walk_yes (a : Option Addr) (n cap : Nat) (xs : List Int) (t : Nat) (l : List Nat) (w : World) (hi : Ints w a xs) (hx : xs.length = n) (hn : n ≤ 400) (h1 : 1 ≤ t) (ht : t ≤ n) (hl : Objects xs t l) :
    Calls Try.prog 49 #[.agg #[.slice a n cap, .int .i64 t]] w (WalkPost w l) :=
  (walk_any a n cap xs t w hi hx hn h1 ht).mono fun e w' h => by
    rcases h with ⟨l', hl', h⟩ | ⟨h, _⟩
    · have : l = l' := by have := hl.1.symm.trans hl'.1; injection this
      subst this
      exact h
    · exact absurd hl (h l)
open Lw in
theorem walk_no (a : Option Addr) (n cap : Nat) (xs : List Int) (t : Nat) (w : World) (hi : Ints w a xs) (hx : xs.length = n) (hn : n ≤ 400) (h1 : 1 ≤ t) (ht : t ≤ n) (hl : ∀ l, ¬ Objects xs t l) :
    Calls Try.prog 49 #[.agg #[.slice a n cap, .int .i64 t]] w fun e w' => e = .returned (.tuple #[.slice none 0 0, .bool false]) ∧ Below w.heap.size w w' :=
  (walk_any a n cap xs t w hi hx hn h1 ht).mono fun e w' h => by
    rcases h with ⟨l', hl', _⟩ | ⟨_, h⟩
    · exact absurd hl' (hl l')
    · exact h

open Lw in
theorem fieldsCode_iff {xs : List Int} {l : List Nat} : FieldsCode xs l l.length ↔ FieldsOk xs l := by
  unfold FieldsCode FieldsOk
  constructor
  · intro h p hp k hk
    obtain ⟨i, hi, rfl⟩ := List.mem_iff_getElem.1 hp
    have e : l.getD i 0 = l[i] := by simp [List.getD_eq_getElem?_getD, List.getElem?_eq_getElem hi]
    have := h i hi k (by rw [e]; exact hk)
    rw [e] at this
    exact (codeOk_iff _ _).1 this
  · intro h i hi k hk
    have e : l.getD i 0 = l[i] := by simp [List.getD_eq_getElem?_getD, List.getElem?_eq_getElem hi]
    rw [e] at hk ⊢
    exact (codeOk_iff _ _).2 (h _ (List.getElem_mem hi) k hk)

/-- The places of a valid heap. -/
def PlacesYes (w : World) (l : List Nat) (e : Ending) (w' : World) : Prop :=
  ∃ a cap, e = .returned (.tuple #[.slice a l.length cap, .int .i64 0]) ∧ Own w' w.heap.size (.slice a l.length cap) (nums l) ∧ Below w.heap.size w w'

/-- An argument that is a heap, whatever its words. -/
structure IsHeap (w : World) (a : Option Addr) (n cap : Nat) (xs : List Int) (top : Int) : Prop where
  ints : Ints w a xs
  len : xs.length = n
  cap1 : n ≤ cap
  cap2 : cap ≤ 9223372036854775807
  fits : ∀ x ∈ xs, Fits x
  top : Fits top

theorem IsHeap.below {w w' : World} {a : Option Addr} {n cap : Nat} {xs : List Int} {top : Int} (h : IsHeap w a n cap xs top) (hb : Below w.heap.size w w') : IsHeap w' a n cap xs top := { h with ints := h.ints.below hb }

set_option maxHeartbeats 800000 in
open Lw in
theorem places_yes (a : Option Addr) (n cap : Nat) (xs : List Int) (top : Int) (l : List Nat) (w : World) (hh : IsHeap w a n cap xs top) (hv : Valid xs top l) :
    Calls Try.prog 16 #[.agg #[.slice a n cap, .int .i64 top]] w (PlacesYes w l) := by
  obtain ⟨v1, v2, v3, v4, v5, v6, v7⟩ := hv
  have hx := hh.len
  rw [hx] at v1 v2 v4
  obtain ⟨t, rfl⟩ := Int.eq_ofNat_of_zero_le (a := top) (by omega)
  rw [Int.toNat_natCast] at v5 v7
  have H := Lib.hide hh
  have HX := Lib.hide hx
  have V5 := Lib.hide v5
  have V6 := Lib.hide (fieldsCode_iff.2 v6)
  have V7 := Lib.hide v7
  have h1 : 1 ≤ t := by omega
  have h2 : t ≤ n := by omega
  have kc1 := hh.cap1
  have kc2 := hh.cap2
  clear hh hx v5 v6 v7
  go_enter Try.func16, Try.ntmps16
  go_wp2_with (first
    | (go_at_call 48; refine (sizesValid_yes a n cap t _ v1 v2 v3 v4).mono ?_; rintro e w1 ⟨rfl, hb1⟩; obtain ⟨qc_hb1, qf_hb1, qs_hb1⟩ := bcell hb1; have hz1 := Below.past hb1)
    | (go_at_call 49; refine (walk_yes a n cap xs t l _ (H.out.ints.below (by repeat (first | exact Below.refl _ _ | assumption | refine Below.drew ?_ | refine below_drewN ?_ _ | refine Below.allocs ?_ | refine Below.next ?_ (by assumption) | refine Below.setCell ?_ (by dsimp only; omega) _))) HX.out v2 h1 h2 V5.out).mono ?_; rintro e w2 ⟨a2, c2, rfl, ho2, hb2⟩; have HO2 := Lib.hide ho2; clear ho2; obtain ⟨qc_hb2, qf_hb2, qs_hb2⟩ := bcell hb2; have hz2 := Nat.lt_of_lt_of_le hz1 hb2.size)
    | (go_at_call 50; refine (says_yes (fieldsValid_any a n cap xs t l a2 l.length c2 _ (H.out.ints.below (by repeat (first | exact Below.refl _ _ | assumption | refine Below.drew ?_ | refine below_drewN ?_ _ | refine Below.allocs ?_ | refine Below.next ?_ (by assumption) | refine Below.setCell ?_ (by dsimp only; omega) _))) HX.out v2 kc1 kc2 h2 H.out.fits (Objects.laid V5.out) (HO2.out.reads.2.below (by repeat (first | exact Below.refl _ _ | assumption | refine Below.drew ?_ | refine below_drewN ?_ _ | refine Below.allocs ?_ | refine Below.next ?_ (by assumption) | refine Below.setCell ?_ (by dsimp only; omega) _))) rfl) V6.out).mono ?_; rintro e w3 ⟨rfl, hb3⟩; obtain ⟨qc_hb3, qf_hb3, qs_hb3⟩ := bcell hb3; have hz3 := Nat.lt_of_lt_of_le hz2 hb3.size)
    | (go_at_call 51; refine (says_yes (restZero_any a n cap xs t _ (H.out.ints.below (by repeat (first | exact Below.refl _ _ | assumption | refine Below.drew ?_ | refine below_drewN ?_ _ | refine Below.allocs ?_ | refine Below.next ?_ (by assumption) | refine Below.setCell ?_ (by dsimp only; omega) _))) HX.out v2 kc1 h2 kc2) V7.out).mono ?_; rintro e w4 ⟨rfl, hb4⟩))
  go_ret2
  exact ⟨a2, c2, rfl, Own.below (ownsRow_base HO2.out (Nat.le_of_lt hz1)) (by repeat (first | exact Below.refl _ _ | assumption | refine Below.drew ?_ | refine below_drewN ?_ _ | refine Below.allocs ?_ | refine Below.next ?_ (by assumption) | refine Below.setCell ?_ (by dsimp only; omega) _)), (by repeat (first | exact Below.refl _ _ | assumption | refine Below.drew ?_ | refine below_drewN ?_ _ | refine Below.allocs ?_ | refine Below.next ?_ (by assumption) | refine Below.setCell ?_ (by dsimp only; omega) _))⟩

/-- What a function hands back together with ErrState where its other result is a list. -/
def PlacesNo (w : World) (e : Ending) (w' : World) : Prop := e = .returned (.tuple #[.slice none 0 0, .int .i64 5]) ∧ Below w.heap.size w w'

set_option maxHeartbeats 1600000 in
open Lw in
theorem places_no (a : Option Addr) (n cap : Nat) (xs : List Int) (top : Int) (w : World) (hh : IsHeap w a n cap xs top) (hv : ∀ l, ¬ Valid xs top l) :
    Calls Try.prog 16 #[.agg #[.slice a n cap, .int .i64 top]] w (PlacesNo w) := by
  by_cases hs : 1 ≤ n ∧ n ≤ 400 ∧ 1 ≤ top ∧ top ≤ n
  · obtain ⟨v1, v2, v3, v4⟩ := hs
    have hx := hh.len
    obtain ⟨t, rfl⟩ := Int.eq_ofNat_of_zero_le (a := top) (by omega)
    have h1 : 1 ≤ t := by omega
    have h2 : t ≤ n := by omega
    have kc1 := hh.cap1
    have kc2 := hh.cap2
    have H := Lib.hide hh
    have HX := Lib.hide hx
    by_cases ho : ∃ l, Objects xs t l
    · obtain ⟨l, hl⟩ := ho
      have V5 := Lib.hide hl
      by_cases hf : FieldsCode xs l l.length
      · have V6 := Lib.hide hf
        have hr : ¬ RestZero xs t := fun hr => hv l ⟨by omega, by omega, v3, by rw [hx]; exact v4, hl, fieldsCode_iff.1 hf, hr⟩
        have V7 := Lib.hide hr
        clear hh hx hv hl hf hr
        go_enter Try.func16, Try.ntmps16
        go_wp2_with (first
          | (go_at_call 48; refine (sizesValid_yes a n cap t _ v1 v2 v3 v4).mono ?_; rintro e w1 ⟨rfl, hb1⟩; obtain ⟨qc_hb1, qf_hb1, qs_hb1⟩ := bcell hb1; have hz1 := Below.past hb1)
          | (go_at_call 49; refine (walk_yes a n cap xs t l _ (H.out.ints.below (by repeat (first | exact Below.refl _ _ | assumption | refine Below.drew ?_ | refine below_drewN ?_ _ | refine Below.allocs ?_ | refine Below.next ?_ (by assumption) | refine Below.setCell ?_ (by dsimp only; omega) _))) HX.out v2 h1 h2 V5.out).mono ?_; rintro e w2 ⟨a2, c2, rfl, ho2, hb2⟩; have HO2 := Lib.hide ho2; clear ho2; obtain ⟨qc_hb2, qf_hb2, qs_hb2⟩ := bcell hb2; have hz2 := Nat.lt_of_lt_of_le hz1 hb2.size)
          | (go_at_call 50; refine (says_yes (fieldsValid_any a n cap xs t l a2 l.length c2 _ (H.out.ints.below (by repeat (first | exact Below.refl _ _ | assumption | refine Below.drew ?_ | refine below_drewN ?_ _ | refine Below.allocs ?_ | refine Below.next ?_ (by assumption) | refine Below.setCell ?_ (by dsimp only; omega) _))) HX.out v2 kc1 kc2 h2 H.out.fits (Objects.laid V5.out) (HO2.out.reads.2.below (by repeat (first | exact Below.refl _ _ | assumption | refine Below.drew ?_ | refine below_drewN ?_ _ | refine Below.allocs ?_ | refine Below.next ?_ (by assumption) | refine Below.setCell ?_ (by dsimp only; omega) _))) rfl) V6.out).mono ?_; rintro e w3 ⟨rfl, hb3⟩; obtain ⟨qc_hb3, qf_hb3, qs_hb3⟩ := bcell hb3; have hz3 := Nat.lt_of_lt_of_le hz2 hb3.size)
          | (go_at_call 51; refine (says_no (restZero_any a n cap xs t _ (H.out.ints.below (by repeat (first | exact Below.refl _ _ | assumption | refine Below.drew ?_ | refine below_drewN ?_ _ | refine Below.allocs ?_ | refine Below.next ?_ (by assumption) | refine Below.setCell ?_ (by dsimp only; omega) _))) HX.out v2 kc1 h2 kc2) V7.out).mono ?_; rintro e w4 ⟨rfl, hb4⟩))
        go_ret2
        exact ⟨rfl, (by repeat (first | exact Below.refl _ _ | assumption | refine Below.drew ?_ | refine below_drewN ?_ _ | refine Below.allocs ?_ | refine Below.next ?_ (by assumption) | refine Below.setCell ?_ (by dsimp only; omega) _))⟩
      · have V6 := Lib.hide hf
        clear hh hx hv hl hf
        go_enter Try.func16, Try.ntmps16
        go_wp2_with (first
          | (go_at_call 48; refine (sizesValid_yes a n cap t _ v1 v2 v3 v4).mono ?_; rintro e w1 ⟨rfl, hb1⟩; obtain ⟨qc_hb1, qf_hb1, qs_hb1⟩ := bcell hb1; have hz1 := Below.past hb1)
          | (go_at_call 49; refine (walk_yes a n cap xs t l _ (H.out.ints.below (by repeat (first | exact Below.refl _ _ | assumption | refine Below.drew ?_ | refine below_drewN ?_ _ | refine Below.allocs ?_ | refine Below.next ?_ (by assumption) | refine Below.setCell ?_ (by dsimp only; omega) _))) HX.out v2 h1 h2 V5.out).mono ?_; rintro e w2 ⟨a2, c2, rfl, ho2, hb2⟩; have HO2 := Lib.hide ho2; clear ho2; obtain ⟨qc_hb2, qf_hb2, qs_hb2⟩ := bcell hb2; have hz2 := Nat.lt_of_lt_of_le hz1 hb2.size)
          | (go_at_call 50; refine (says_no (fieldsValid_any a n cap xs t l a2 l.length c2 _ (H.out.ints.below (by repeat (first | exact Below.refl _ _ | assumption | refine Below.drew ?_ | refine below_drewN ?_ _ | refine Below.allocs ?_ | refine Below.next ?_ (by assumption) | refine Below.setCell ?_ (by dsimp only; omega) _))) HX.out v2 kc1 kc2 h2 H.out.fits (Objects.laid V5.out) (HO2.out.reads.2.below (by repeat (first | exact Below.refl _ _ | assumption | refine Below.drew ?_ | refine below_drewN ?_ _ | refine Below.allocs ?_ | refine Below.next ?_ (by assumption) | refine Below.setCell ?_ (by dsimp only; omega) _))) rfl) V6.out).mono ?_; rintro e w3 ⟨rfl, hb3⟩; obtain ⟨qc_hb3, qf_hb3, qs_hb3⟩ := bcell hb3; have hz3 := Nat.lt_of_lt_of_le hz2 hb3.size))
        go_ret2
        exact ⟨rfl, (by repeat (first | exact Below.refl _ _ | assumption | refine Below.drew ?_ | refine below_drewN ?_ _ | refine Below.allocs ?_ | refine Below.next ?_ (by assumption) | refine Below.setCell ?_ (by dsimp only; omega) _))⟩
    · have V5 := Lib.hide (not_exists.1 ho)
      clear hh hx hv ho
      go_enter Try.func16, Try.ntmps16
      go_wp2_with (first
        | (go_at_call 48; refine (sizesValid_yes a n cap t _ v1 v2 v3 v4).mono ?_; rintro e w1 ⟨rfl, hb1⟩; obtain ⟨qc_hb1, qf_hb1, qs_hb1⟩ := bcell hb1; have hz1 := Below.past hb1)
        | (go_at_call 49; refine (walk_no a n cap xs t _ (H.out.ints.below (by repeat (first | exact Below.refl _ _ | assumption | refine Below.drew ?_ | refine below_drewN ?_ _ | refine Below.allocs ?_ | refine Below.next ?_ (by assumption) | refine Below.setCell ?_ (by dsimp only; omega) _))) HX.out v2 h1 h2 V5.out).mono ?_; rintro e w2 ⟨rfl, hb2⟩; obtain ⟨qc_hb2, qf_hb2, qs_hb2⟩ := bcell hb2; have hz2 := Nat.lt_of_lt_of_le hz1 hb2.size))
      go_ret2
      exact ⟨rfl, (by repeat (first | exact Below.refl _ _ | assumption | refine Below.drew ?_ | refine below_drewN ?_ _ | refine Below.allocs ?_ | refine Below.next ?_ (by assumption) | refine Below.setCell ?_ (by dsimp only; omega) _))⟩
  · have HS := Lib.hide hs
    clear hh hv hs
    go_enter Try.func16, Try.ntmps16
    go_wp2_with (go_at_call 48; refine (sizesValid_no a n cap top _ HS.out).mono ?_; rintro e w1 ⟨rfl, hb1⟩)
    go_ret2
    exact ⟨rfl, (by repeat (first | exact Below.refl _ _ | assumption | refine Below.drew ?_ | refine below_drewN ?_ _ | refine Below.allocs ?_ | refine Below.next ?_ (by assumption) | refine Below.setCell ?_ (by dsimp only; omega) _))⟩

set_option maxHeartbeats 400000 in
open Lw in
theorem check_yes (a : Option Addr) (n cap : Nat) (xs : List Int) (top : Int) (l : List Nat) (w : World) (hh : IsHeap w a n cap xs top) (hv : Valid xs top l) :
    Calls Try.prog 21 #[.agg #[.slice a n cap, .int .i64 top]] w fun e w' => e = .returned (.int .i64 0) ∧ Below w.heap.size w w' := by
  have H := Lib.hide hh
  have HV := Lib.hide hv
  clear hh hv
  go_enter Try.func21, Try.ntmps21
  go_wp2_with (go_at_call 16; refine (places_yes a n cap xs top l _ (H.out.below (by repeat (first | exact Below.refl _ _ | assumption | refine Below.drew ?_ | refine below_drewN ?_ _ | refine Below.allocs ?_ | refine Below.next ?_ (by assumption) | refine Below.setCell ?_ (by dsimp only; omega) _))) HV.out).mono ?_; rintro e w1 ⟨a1, c1, rfl, ho1, hb1⟩)
  go_ret
  exact ⟨rfl, (by repeat (first | exact Below.refl _ _ | assumption | refine Below.drew ?_ | refine below_drewN ?_ _ | refine Below.allocs ?_ | refine Below.next ?_ (by assumption) | refine Below.setCell ?_ (by dsimp only; omega) _))⟩

set_option maxHeartbeats 400000 in
open Lw in
theorem check_no (a : Option Addr) (n cap : Nat) (xs : List Int) (top : Int) (w : World) (hh : IsHeap w a n cap xs top) (hv : ∀ l, ¬ Valid xs top l) :
    Calls Try.prog 21 #[.agg #[.slice a n cap, .int .i64 top]] w fun e w' => e = .returned (.int .i64 5) ∧ Below w.heap.size w w' := by
  have H := Lib.hide hh
  have HV := Lib.hide hv
  clear hh hv
  go_enter Try.func21, Try.ntmps21
  go_wp2_with (go_at_call 16; refine (places_no a n cap xs top _ (H.out.below (by repeat (first | exact Below.refl _ _ | assumption | refine Below.drew ?_ | refine below_drewN ?_ _ | refine Below.allocs ?_ | refine Below.next ?_ (by assumption) | refine Below.setCell ?_ (by dsimp only; omega) _))) HV.out).mono ?_; rintro e w1 ⟨rfl, hb1⟩)
  go_ret
  exact ⟨rfl, (by repeat (first | exact Below.refl _ _ | assumption | refine Below.drew ?_ | refine below_drewN ?_ _ | refine Below.allocs ?_ | refine Below.next ?_ (by assumption) | refine Below.setCell ?_ (by dsimp only; omega) _))⟩
end Go.Proofs.Ytpdcaoagpjcgbab
