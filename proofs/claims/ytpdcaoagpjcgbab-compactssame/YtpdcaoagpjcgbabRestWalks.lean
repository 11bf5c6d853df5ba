/-
  The walks of heap.restZero and heap.fieldsValid. It proves no statement by itself.
-/
import Derived.Test.YtpdcaoagpjcgbabSearchWalks
import Derived.Test.YtpdcaoagpjcgbabWordWalks
set_option linter.unusedVariables false
set_option linter.unusedSimpArgs false
namespace Go.Proofs.Ytpdcaoagpjcgbab
open Go.RowKit

/-- What a function that answers yes or no, and makes at most new memory, hands back. -/
def Says (w : World) (p : Prop) (e : Ending) (w' : World) : Prop := (p ∧ e = .returned (.bool true) ∧ Below w.heap.size w w') ∨ (¬ p ∧ e = .returned (.bool false) ∧ Below w.heap.size w w')

set_option maxHeartbeats 800000 in
open Lw in
theorem restZero_any (a : Option Addr) (n cap : Nat) (xs : List Int) (t : Nat) (w : World) (hi : Ints w a xs) (hx : xs.length = n) (hn : n ≤ 400) (hcap : n ≤ cap) (ht : t ≤ n) (hr : cap ≤ 9223372036854775807) :
    Calls Try.prog 51 #[.agg #[.slice a n cap, .int .i64 t]] w (Says w (RestZero xs t)) := by
  by_cases htn : t = n
  · have hz : RestZero xs t := fun k h1 h2 => by omega
    have HZ := Lib.hide hz
    clear hz hi
    subst htn
    have fin : ∀ w', Below w.heap.size w w' → Says w (RestZero xs t) (.returned (.bool true)) w' := fun w' h => .inl ⟨HZ.out, rfl, h⟩
    have FIN := Lib.hide fin
    clear fin
    by_cases hc : t = cap
    · subst hc
      go_enter Try.func51, Try.ntmps51
      go_wp2
      refine wp_loop_rounds 1 ?_; rw [rounds_succ]
      go_wp2
      go_ret
      exact FIN.out _ (by repeat (first | exact Below.refl _ _ | assumption | refine Below.drew ?_ | refine below_drewN ?_ _ | refine Below.allocs ?_ | refine Below.next ?_ (by assumption) | refine Below.setCell ?_ (by dsimp only; omega) _))
    · have hc' : ¬ cap = t := fun h => hc h.symm
      go_enter Try.func51, Try.ntmps51
      go_wp2
      refine wp_loop_rounds 1 ?_; rw [rounds_succ]
      go_wp2
      go_ret
      exact FIN.out _ (by repeat (first | exact Below.refl _ _ | assumption | refine Below.drew ?_ | refine below_drewN ?_ _ | refine Below.allocs ?_ | refine Below.next ?_ (by assumption) | refine Below.setCell ?_ (by dsimp only; omega) _))
  · obtain ⟨b, o, rfl, hb, hc⟩ := hi.at (by omega)
    have hct : ¬ cap = t := by omega
    have hlt : t < n := by omega
    have HX := Lib.hide hx
    have HC := Lib.hide hc
    clear hi hx hc htn
    go_enter Try.func51, Try.ntmps51
    go_wp2
    go_loop [11] (fun i => ∃ k : Nat, k ≤ n - t ∧ i = .int .i64 k ∧ ∀ j, j < k → xs.getD (t + j) 0 = 0) (fun i => n - t - (intOf i).toNat)
    case atStart => exact ⟨0, Nat.zero_le _, rfl, fun j hj => absurd hj (Nat.not_lt_zero _)⟩
    case round =>
      obtain ⟨k, hk, rfl, hz⟩ := hrel
      have HZ := Lib.hide hz
      clear hz
      by_cases hkn : k < n - t
      · have e1 := HC.out (t + k) (by rw [HX.out]; omega)
        rw [← Nat.add_assoc] at e1
        obtain ⟨y, hy⟩ : ∃ y, xs.getD (t + k) 0 = y := ⟨_, rfl⟩
        rw [hy] at e1
        have HY := Lib.hide hy
        clear hy
        by_cases hy0 : y = 0
        · have hd : (y != 0) = false := by simpa using hy0
          have HY0 := Lib.hide hy0
          clear hy0
          go_wp2
          go_round
          case rel =>
            refine ⟨k + 1, by omega, by go_num, fun j hj => ?_⟩
            rcases Nat.lt_or_ge j k with h | h
            · exact HZ.out j h
            · obtain rfl : j = k := by omega
              rw [HY.out, HY0.out]
          case measure => simp [intOf]; omega
        · have hd : (y != 0) = true := by simpa using hy0
          go_wp2
          go_ret
          refine .inr ⟨fun h => hy0 ?_, rfl, (by repeat (first | exact Below.refl _ _ | assumption | refine Below.drew ?_ | refine below_drewN ?_ _ | refine Below.allocs ?_ | refine Below.next ?_ (by assumption) | refine Below.setCell ?_ (by dsimp only; omega) _))⟩
          rw [← HY.out]
          exact h (t + k) (by omega) (by rw [HX.out]; omega)
      · go_wp2
        go_ret
        refine .inl ⟨fun j h1 h2 => ?_, rfl, (by repeat (first | exact Below.refl _ _ | assumption | refine Below.drew ?_ | refine below_drewN ?_ _ | refine Below.allocs ?_ | refine Below.next ?_ (by assumption) | refine Below.setCell ?_ (by dsimp only; omega) _))⟩
        rw [HX.out] at h2
        have := HZ.out (j - t) (by omega)
        rwa [show t + (j - t) = j by omega] at this

/-- A field's word that heap.fieldsValid takes. -/
def CodeOk (l : List Nat) (y : Int) : Prop := codeOf (nums l) (y % 2) (y / 2) = 0

open Lw in
theorem codeOk_iff (l : List Nat) (y : Int) : CodeOk l y ↔ FieldOk l y := by
  unfold CodeOk FieldOk codeOf
  rcases Int.emod_two_eq y with h | h
  · rw [h]
    simp only [if_true]
    constructor
    · intro h1
      refine ⟨fun h2 => by omega, fun _ => ?_⟩
      split at h1
      · omega
      · cases h1
    · intro h1
      rw [if_pos]
      have := h1.2 trivial
      omega
  · rw [h]
    rw [if_neg (by omega), if_pos rfl]
    have hm : y / 2 ∈ nums l ↔ ∃ p ∈ l, (p : Int) = y / 2 := by simp [nums]
    constructor
    · intro h1
      refine ⟨fun _ => ?_, fun h2 => by omega⟩
      split at h1
      · rename_i h3
        rcases h3 with h3 | h3
        · left; omega
        · right; exact hm.1 h3
      · cases h1
    · intro h1
      rw [if_pos]
      rcases h1.1 rfl with h2 | h2
      · left; omega
      · right; exact hm.2 h2

open Lw in
/-- All objects of a list lie below top, in order. -/
structure Laid (xs : List Int) (t : Nat) (l : List Nat) : Prop where
  fit : ∀ p ∈ l, 1 ≤ p ∧ Fit xs t p
  sorted : l.Pairwise (· < ·)
  short : l.length ≤ t

open Lw in
theorem objs_laid {xs : List Int} {t : Nat} {l : List Nat} (h : objs xs t 1 = some l) : Laid xs t l := by
  obtain ⟨h1, h2⟩ := objs_spec t 1 l (by omega) h
  refine ⟨fun p hp => ⟨(h1 p hp).1, (h1 p hp).2.2⟩, h2, ?_⟩
  have hb : ∀ (k : Nat) (l : List Nat), l.Pairwise (· < ·) → (∀ q ∈ l, k ≤ q ∧ q < t) → l.length ≤ t - k := by
    intro k l
    induction l generalizing k with
    | nil => intros; simp
    | cons q l ih =>
      intro hp hq
      obtain ⟨ha, hb⟩ := List.pairwise_cons.1 hp
      have := ih (q + 1) hb (fun r hr => ⟨ha r hr, (hq r (List.mem_cons_of_mem _ hr)).2⟩)
      have := hq q (by simp)
      simp
      omega
  have := hb 1 l h2 (fun q hq => ⟨(h1 q hq).1, (h1 q hq).2.1⟩)
  omega

open Lw in
theorem Objects.laid {xs : List Int} {t : Nat} {l : List Nat} (h : Objects xs t l) : Laid xs t l := objs_laid h.1

theorem nums_sorted {l : List Nat} (h : l.Pairwise (· < ·)) : (nums l).Pairwise (· < ·) := by
  unfold nums
  rw [List.pairwise_map]
  exact h.imp fun h => by omega
theorem nums_getD (l : List Nat) (i : Nat) : (nums l).getD i 0 = (l.getD i 0 : Nat) := by
  unfold nums
  simp [List.getD_eq_getElem?_getD, List.getElem?_map]
  cases l[i]? <;> rfl

def FieldsCode (xs : List Int) (l : List Nat) (m : Nat) : Prop := ∀ i, i < m → ∀ k : Nat, (k : Int) < xs.getD (l.getD i 0 + 1) 0 → CodeOk l (xs.getD (l.getD i 0 + 2 + k) 0)

set_option maxHeartbeats 1600000 in
open Lw in
theorem fieldsValid_any (a : Option Addr) (n cap : Nat) (xs : List Int) (t : Nat) (l : List Nat) (a2 : Option Addr) (m c2 : Nat) (w : World) (hi : Ints w a xs) (hx : xs.length = n) (hn : n ≤ 400) (hcap : n ≤ cap) (hr : cap ≤ 9223372036854775807) (ht : t ≤ n) (hfit : ∀ x ∈ xs, Fits x)
    (hl : Laid xs t l) (hi2 : Ints w a2 (nums l)) (hm : l.length = m) :
    Calls Try.prog 50 #[.agg #[.slice a n cap, .int .i64 t], .slice a2 m c2] w (Says w (FieldsCode xs l m)) := by
  have hm4 : m ≤ 400 := by have := hl.short; omega
  have HI := Lib.hide hi
  have HI2 := Lib.hide hi2
  have HX := Lib.hide hx
  have HL := Lib.hide hl
  have HM := Lib.hide hm
  have HF := Lib.hide hfit
  clear hi hi2 hx hl hm hfit
  go_enter Try.func50, Try.ntmps50
  go_wp2
  go_loopw [12] (fun i wr => ∃ k : Nat, k ≤ m ∧ i = .int .i64 k ∧ FieldsCode xs l k ∧ Below (w.heap.size + 1) (w.alloc (.cells #[.slice a n cap, .int .i64 t] 27)) wr) (fun i _ => m - (intOf i).toNat)
  case atStart => exact ⟨0, Nat.zero_le _, rfl, fun j hj => absurd hj (Nat.not_lt_zero _), Below.refl _ _⟩
  case round =>
    obtain ⟨k, hk, rfl, hz, hbel⟩ := hrel
    have HZ := Lib.hide hz
    clear hz
    have b0 : wr.cell? ⟨w.heap.size, 0, none⟩ = some (.slice a n cap) := by rw [hbel.cell (p := ⟨w.heap.size, 0, none⟩) (by simp)]; go_simp
    have hbw : Below w.heap.size w wr := Below.trans (b := w.alloc (.cells #[.slice a n cap, .int .i64 t] 27)) (by repeat (first | exact Below.refl _ _ | assumption | refine Below.drew ?_ | refine below_drewN ?_ _ | refine Below.allocs ?_ | refine Below.next ?_ (by assumption) | refine Below.setCell ?_ (by dsimp only; omega) _)) (hbel.mono (by simp))
    by_cases hkm : k < m
    · obtain ⟨b2, o2, rfl, hb2, hc2⟩ := (HI2.out.below hbw).at (by rw [nums_length, HM.out]; omega)
      have e1 := hc2 k (by rw [nums_length, HM.out]; exact hkm)
      clear hc2
      rw [nums_getD] at e1
      obtain ⟨p, hp⟩ : ∃ p, l.getD k 0 = p := ⟨_, rfl⟩
      rw [hp] at e1
      have hpl : p ∈ l := by
        rw [← hp]
        have : k < l.length := by rw [HM.out]; exact hkm
        simp [List.getD_eq_getElem?_getD, List.getElem?_eq_getElem this]
      obtain ⟨hp1, f1, f2, f3, f4⟩ := HL.out.fit p hpl
      obtain ⟨b, o, rfl, hb, hc⟩ := (HI.out.below hbw).at (by rw [HX.out]; omega)
      have e2 := hc (p + 1) (by rw [HX.out]; omega)
      have HC := Lib.hide hc
      have HP := Lib.hide hp
      have HPL := Lib.hide hpl
      clear hc hp hpl
      obtain ⟨f, hf⟩ : ∃ f, xs.getD (p + 1) 0 = f := ⟨_, rfl⟩
      rw [hf] at e2 f2 f3 f4
      have HFF := Lib.hide hf
      clear hf
      obtain ⟨f, rfl⟩ := Int.eq_ofNat_of_zero_le f2
      rw [Int.toNat_natCast] at f4
      by_cases hf0 : f = 0
      · subst hf0
        have hnext : FieldsCode xs l (k + 1) := by
          intro i hik j hj
          rcases Nat.lt_or_ge i k with h | h
          · exact HZ.out i h j hj
          · obtain rfl : i = k := by omega
            rw [HP.out, HFF.out] at hj
            omega
        have HN := Lib.hide hnext
        clear hnext
        by_cases hcp : cap = p + 2
        · subst hcp
          go_wp2
          go_quiet (fail)
          go_wp2
          refine wp_loop_rounds 1 ?_; rw [rounds_succ]
          go_wp2
          go_roundw
          case rel => exact ⟨k + 1, by omega, by go_num, HN.out, below_drewN hbel _⟩
          case measure => simp [intOf]; omega
        · go_wp2
          go_quiet (fail)
          go_wp2
          refine wp_loop_rounds 1 ?_; rw [rounds_succ]
          go_wp2
          go_roundw
          case rel => exact ⟨k + 1, by omega, by go_num, HN.out, below_drewN hbel _⟩
          case measure => simp [intOf]; omega
      · have hcp : ¬ cap = p + 2 := by omega
        go_wp2
        go_quiet (fail)
        go_wp2
        obtain ⟨wo, rfl⟩ : ∃ wo : World, wo = wr := ⟨_, rfl⟩
        rw [show p + 2 + f - (p + 2) = f by omega]
        go_loopw [31] (fun i wq => ∃ j : Nat, j ≤ f ∧ i = .int .i64 j ∧ (∀ i, i < j → CodeOk l (xs.getD (p + 2 + i) 0)) ∧ Below (w.heap.size + 1) (w.alloc (.cells #[.slice (some ⟨b, o, none⟩) n cap, .int .i64 t] 27)) wq ∧ Below wo.heap.size wo wq) (fun i _ => f - (intOf i).toNat)
        case atStart => exact ⟨0, Nat.zero_le _, rfl, fun j hj => absurd hj (Nat.not_lt_zero _), below_drewN hbel _, (by repeat (first | exact Below.refl _ _ | assumption | refine Below.drew ?_ | refine below_drewN ?_ _ | refine Below.allocs ?_ | refine Below.next ?_ (by assumption) | refine Below.setCell ?_ (by dsimp only; omega) _))⟩
        case round =>
          obtain ⟨j, hj, rfl, hq, hbel2, hbo⟩ := hrel
          have HQ := Lib.hide hq
          clear hq
          by_cases hjf : j < f
          · have e3 : wr.cell? ⟨b, o + (p + 2) + j, none⟩ = some (.int .i64 (xs.getD (p + 2 + j) 0)) := by
              rw [hbo.cell (p := ⟨b, o + (p + 2) + j, none⟩) (by simpa using hb)]
              have := HC.out (p + 2 + j) (by rw [HX.out]; omega)
              rwa [← Nat.add_assoc] at this
            obtain ⟨y, hy⟩ : ∃ y, xs.getD (p + 2 + j) 0 = y := ⟨_, rfl⟩
            have hyf : Fits y := by
              rw [← hy]
              have h : p + 2 + j < xs.length := by rw [HX.out]; omega
              have : xs.getD (p + 2 + j) 0 = xs[p + 2 + j] := by simp [List.getD_eq_getElem?_getD, List.getElem?_eq_getElem h]
              rw [this]
              exact HF.out _ (List.getElem_mem h)
            rw [hy] at e3
            have HYF := Lib.hide hyf
            have HY := Lib.hide hy
            clear hy hyf
            obtain ⟨c, hc⟩ : ∃ c, codeOf (nums l) (y % 2) (y / 2) = c := ⟨_, rfl⟩
            have HCC := Lib.hide hc
            clear hc
            have hle : w.heap.size + 1 ≤ wr.heap.size := by have := hbel2.size; simp at this; omega
            by_cases hc0 : c = 0
            · have hd : (c != 0) = false := by simpa using hc0
              have HC0 := Lib.hide hc0
              clear hc0
              go_wp2_with (first
              | (go_at_call 26; refine (of_any y _ HYF.out).mono ?_; rintro e w5 ⟨rfl, hb5⟩)
              | (go_at_call 53; refine (checkValue_any _ m c2 (nums l) (y % 2) (y / 2) w5 (HI2.out.below (Below.next (Below.next hbw hbo) hb5)) (by rw [nums_length]; exact HM.out) hm4 (nums_sorted HL.out.sorted) c HCC.out).mono ?_; rintro e w6 ⟨rfl, hb6⟩))
              go_roundw
              case rel =>
                refine ⟨j + 1, by omega, by go_num, fun i hij => ?_, hbel2.trans ((Below.next hb5 hb6).mono hle), Below.next (Below.next hbo hb5) hb6⟩
                rcases Nat.lt_or_ge i j with h | h
                · exact HQ.out i h
                · obtain rfl : i = j := by omega
                  rw [HY.out]; exact HCC.out.trans HC0.out
              case measure => simp [intOf]; omega
            · have hd : (c != 0) = true := by simpa using hc0
              have HC0 := Lib.hide hc0
              clear hc0
              go_wp2_with (first
              | (go_at_call 26; refine (of_any y _ HYF.out).mono ?_; rintro e w5 ⟨rfl, hb5⟩)
              | (go_at_call 53; refine (checkValue_any _ m c2 (nums l) (y % 2) (y / 2) w5 (HI2.out.below (Below.next (Below.next hbw hbo) hb5)) (by rw [nums_length]; exact HM.out) hm4 (nums_sorted HL.out.sorted) c HCC.out).mono ?_; rintro e w6 ⟨rfl, hb6⟩))
              go_ret
              refine .inr ⟨fun h => HC0.out ?_, rfl, Below.next (Below.next (Below.next hbw hbo) hb5) hb6⟩
              have h7 := h k hkm j (by rw [HP.out, HFF.out]; omega)
              rw [HP.out, HY.out] at h7
              exact HCC.out.symm.trans h7
          · go_wp2
            go_roundw
            case rel =>
              refine ⟨k + 1, by omega, by go_num, ?_, hbel2⟩
              intro i hik q hq
              rcases Nat.lt_or_ge i k with h | h
              · exact HZ.out i h q hq
              · obtain rfl : i = k := by omega
                rw [HP.out, HFF.out] at hq
                rw [HP.out]
                exact HQ.out q (by omega)
            case measure => simp [intOf]; omega
    · obtain rfl : k = m := by omega
      go_wp2
      go_ret
      exact .inl ⟨HZ.out, rfl, (by repeat (first | exact Below.refl _ _ | assumption | refine Below.drew ?_ | refine below_drewN ?_ _ | refine Below.allocs ?_ | refine Below.next ?_ (by assumption) | refine Below.setCell ?_ (by dsimp only; omega) _))⟩
end Go.Proofs.Ytpdcaoagpjcgbab
