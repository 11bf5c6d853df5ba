/-
  The walks of gc.isPlace, gc.areRoots and gc.fields. It proves no statement by itself.
-/
import Derived.Test.YtpdcaoagpjcgbabStoreWalks
import Derived.Test.YtpdcaoagpjcgbabMapBase
set_option linter.unusedVariables false
set_option linter.unusedSimpArgs false
namespace Go.Proofs.Ytpdcaoagpjcgbab
open Go.RowKit

set_option maxHeartbeats 400000 in
theorem gcIsPlace_any (a : Option Addr) (n cap : Nat) (zs : List Int) (x : Int) (w : World) (hi : Ints w a zs) (hz : zs.length = n) (hn : n ≤ 400) (hs : zs.Pairwise (· < ·)) (r : Bool) (hr : decide (x ∈ zs) = r) :
    Calls Try.prog 79 #[.slice a n cap, .int .i64 x] w fun e w' => e = .returned (.bool r) ∧ w = w' := by
  have C := Lib.hide (bs_any a n cap zs x w hi hz hn hs)
  have HR := Lib.hide hr
  clear hi hz hs hr
  go_enter Try.func79, Try.ntmps79
  go_wp2_with (go_at_call 103; refine C.out.mono ?_; rintro e w' ⟨i, rfl, rfl⟩; rw [HR.out])
  go_ret
  exact ⟨rfl, rfl⟩

/-- Roots that may be. -/
def RootsOk (zs rs : List Int) : Prop := ∀ x ∈ rs, x = 0 ∨ x ∈ zs

theorem rootsOk_at {zs rs : List Int} : RootsOk zs rs ↔ ∀ i, i < rs.length → rs.getD i 0 = 0 ∨ rs.getD i 0 ∈ zs := by
  unfold RootsOk
  constructor
  · intro h i hi
    exact h _ (mem_at.2 ⟨i, hi, rfl⟩)
  · intro h x hx
    obtain ⟨i, hi, rfl⟩ := mem_at.1 hx
    exact h i hi

set_option maxHeartbeats 800000 in
theorem areRoots_any (a : Option Addr) (n cap : Nat) (zs : List Int) (a2 : Option Addr) (m cap2 : Nat) (rs : List Int) (w : World) (hi : Ints w a zs) (hz : zs.length = n) (hn : n ≤ 400) (hs : zs.Pairwise (· < ·))
    (hi2 : Ints w a2 rs) (hz2 : rs.length = m) (hm : m * 8 ≤ 140737488351232) (r : Bool) (hr : r = true ↔ RootsOk zs rs) :
    Calls Try.prog 56 #[.slice a n cap, .slice a2 m cap2] w fun e w' => e = .returned (.bool r) ∧ w = w' := by
  rw [rootsOk_at, hz2] at hr
  have HI := Lib.hide hi
  have HZ := Lib.hide hz
  have HS := Lib.hide hs
  have HI2 := Lib.hide hi2
  have HZ2 := Lib.hide hz2
  have HR := Lib.hide hr
  clear hi hz hs hi2 hz2 hr
  go_enter Try.func56, Try.ntmps56
  go_wp2
  go_loop [9] (fun u => ∃ i : Nat, i ≤ m ∧ u = .int .i64 i ∧ ∀ k, k < i → rs.getD k 0 = 0 ∨ rs.getD k 0 ∈ zs) (fun u => m - (intOf u).toNat)
  case atStart => exact ⟨0, Nat.zero_le _, rfl, fun k hk => absurd hk (Nat.not_lt_zero _)⟩
  case round =>
    obtain ⟨i, hin, rfl, hlo⟩ := hrel
    have HLO := Lib.hide hlo
    clear hlo
    by_cases hlt : i < m
    · obtain ⟨b, o, rfl, hb, hc⟩ := HI2.out.at (by rw [HZ2.out]; omega)
      have e1 := hc i (by rw [HZ2.out]; omega)
      clear hc
      obtain ⟨y, hy⟩ : ∃ y, rs.getD i 0 = y := ⟨_, rfl⟩
      rw [hy] at e1
      have HY := Lib.hide hy
      clear hy
      by_cases hy0 : y = 0
      · have hd : (y != 0) = false := by simpa using hy0
        have HY0 := Lib.hide hy0
        clear hy0
        go_wp2
        go_round
        case rel =>
          refine ⟨i + 1, by omega, by go_num, fun k hk => ?_⟩
          rcases Nat.lt_or_ge k i with h | h
          · exact HLO.out k h
          · obtain rfl : k = i := by omega
            rw [HY.out]; exact .inl HY0.out
        case measure => simp [intOf]; omega
      · have hd : (y != 0) = true := by simpa using hy0
        have HY0 := Lib.hide hy0
        clear hy0
        by_cases hm' : y ∈ zs
        · have C := Lib.hide (fun w (h : Ints w a zs) => gcIsPlace_any a n cap zs y w h HZ.out hn HS.out true (decide_eq_true hm'))
          have HM := Lib.hide hm'
          clear hm'
          go_wp2_with (go_at_call 79; refine (C.out _ HI.out).mono ?_; rintro e w' ⟨rfl, rfl⟩)
          go_round
          case rel =>
            refine ⟨i + 1, by omega, by go_num, fun k hk => ?_⟩
            rcases Nat.lt_or_ge k i with h | h
            · exact HLO.out k h
            · obtain rfl : k = i := by omega
              rw [HY.out]; exact .inr HM.out
          case measure => simp [intOf]; omega
        · have C := Lib.hide (fun w (h : Ints w a zs) => gcIsPlace_any a n cap zs y w h HZ.out hn HS.out false (decide_eq_false hm'))
          have hrf : r = false := by
            cases r
            · rfl
            · have := HR.out.1 rfl i hlt
              rw [HY.out] at this
              exact absurd (this.resolve_left HY0.out) hm'
          subst hrf
          clear hm'
          go_wp2_with (go_at_call 79; refine (C.out _ HI.out).mono ?_; rintro e w' ⟨rfl, rfl⟩)
          go_ret
          exact ⟨rfl, rfl⟩
    · have hrt : r = true := HR.out.2 (fun k hk => HLO.out k (by omega))
      subst hrt
      go_wp2
      go_ret
      exact ⟨rfl, rfl⟩

/-- The words of the fields of the object at p. -/
def fieldsAt (xs : List Int) (p f : Nat) : List Int := (xs.drop (p + 2)).take f
theorem fieldsAt_length {xs : List Int} {p f : Nat} (h : p + 2 + f ≤ xs.length) : (fieldsAt xs p f).length = f := by
  unfold fieldsAt
  simp
  omega
theorem fieldsAt_getD {xs : List Int} {p f k : Nat} (hk : k < f) : (fieldsAt xs p f).getD k 0 = xs.getD (p + 2 + k) 0 := by
  unfold fieldsAt
  simp [List.getD_eq_getElem?_getD, List.getElem?_take, List.getElem?_drop, hk]

/-- A slice of the fields of an object. -/
def FieldsPost (w : World) (xs : List Int) (p f : Nat) (a : Option Addr) (e : Ending) (w' : World) : Prop :=
  ∃ a' c', e = .returned (.slice a' f c') ∧ f ≤ c' ∧ c' ≤ 9223372036854775807 ∧ Ints w' a' (fieldsAt xs p f) ∧ (0 < f → ∃ b o, a = some ⟨b, o, none⟩ ∧ a' = some ⟨b, o + (p + 2), none⟩) ∧ Below w.heap.size w w'

set_option maxHeartbeats 800000 in
theorem fields_any (a : Option Addr) (n cap : Nat) (xs : List Int) (top : Int) (p f : Nat) (w : World) (hi : Ints w a xs) (hx : xs.length = n) (hn : n ≤ 400) (hcap : n ≤ cap) (hr : cap ≤ 9223372036854775807) (hp : p + 2 + f ≤ n) (hf : xs.getD (p + 1) 0 = (f : Int)) :
    Calls Try.prog 81 #[.agg #[.slice a n cap, .int .i64 top], .int .i64 p] w (FieldsPost w xs p f a) := by
  obtain ⟨b, o, rfl, hb, hc⟩ := hi.at (by omega)
  have e1 := hc (p + 1) (by omega)
  rw [hf] at e1
  have HC := Lib.hide hc
  have HX := Lib.hide hx
  clear hi hx hf hc
  by_cases hf0 : f = 0
  · subst hf0
    have fin : ∀ a' c' w', c' ≤ 9223372036854775807 → Below w.heap.size w w' → FieldsPost w xs p 0 (some ⟨b, o, none⟩) (.returned (.slice a' 0 c')) w' :=
      fun a' c' w' hc hb => ⟨a', c', rfl, Nat.zero_le _, hc, .inl (by simp [fieldsAt]), fun h => absurd h (Nat.lt_irrefl _), hb⟩
    have FIN := Lib.hide fin
    clear fin
    by_cases hcp : cap = p + 2
    · subst hcp
      go_enter Try.func81, Try.ntmps81
      go_wp2
      go_quiet (fail)
      go_wp2
      go_ret
      exact FIN.out _ _ _ (by omega) (by repeat (first | exact Below.refl _ _ | assumption | refine Below.drew ?_ | refine below_drewN ?_ _ | refine Below.allocs ?_ | refine Below.next ?_ (by assumption) | refine Below.setCell ?_ (by dsimp only; omega) _))
    · go_enter Try.func81, Try.ntmps81
      go_wp2
      go_quiet (fail)
      go_wp2
      go_ret
      exact FIN.out _ _ _ (by omega) (by repeat (first | exact Below.refl _ _ | assumption | refine Below.drew ?_ | refine below_drewN ?_ _ | refine Below.allocs ?_ | refine Below.next ?_ (by assumption) | refine Below.setCell ?_ (by dsimp only; omega) _))
  · have hcp : ¬ cap = p + 2 := by omega
    go_enter Try.func81, Try.ntmps81
    go_wp2
    go_quiet (fail)
    go_wp2
    go_ret
    have e2 : p + 2 + f - (p + 2) = f := by omega
    refine ⟨some ⟨b, o + (p + 2), none⟩, cap - (p + 2), by rw [e2]; rfl, by omega, by omega, ?_, fun _ => ⟨b, o, rfl, rfl⟩, (by repeat (first | exact Below.refl _ _ | assumption | refine Below.drew ?_ | refine below_drewN ?_ _ | refine Below.allocs ?_ | refine Below.next ?_ (by assumption) | refine Below.setCell ?_ (by dsimp only; omega) _))⟩
    refine Ints.below (w := w) (.inr ⟨b, o + (p + 2), rfl, hb, fun k hk => ?_⟩) (by repeat (first | exact Below.refl _ _ | assumption | refine Below.drew ?_ | refine below_drewN ?_ _ | refine Below.allocs ?_ | refine Below.next ?_ (by assumption) | refine Below.setCell ?_ (by dsimp only; omega) _))
    rw [fieldsAt_length (by rw [HX.out]; omega)] at hk
    rw [fieldsAt_getD hk, Nat.add_assoc]
    exact HC.out (p + 2 + k) (by rw [HX.out]; omega)
end Go.Proofs.Ytpdcaoagpjcgbab
