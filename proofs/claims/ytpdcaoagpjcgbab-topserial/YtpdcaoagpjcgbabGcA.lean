/-
  The walks of gc.isPlace, gc.areRoots and gc.fields. It proves no statement by itself.
-/
import Derived.Test.YtpdcaoagpjcgbabHeapC
import Derived.Test.YtpdcaoagpjcgbabMapA
import Derived.Test.YtpdcaoagpjcgbabHeapA
set_option linter.unusedVariables false
set_option linter.unusedSimpArgs false
namespace Go.Proofs.Ytpdcaoagpjcgbab
open Go.RowKit

set_option maxHeartbeats 400000 in
theorem gcIsPlace_any (a : Option Addr) (n cap : Nat) (zs : List Int) (x : Int) (w : World) (hi : Ints w a zs) (hz : zs.length = n) (hn : n ≤ 400) (hs : zs.Pairwise (· < ·)) (r : Bool) (hr : decide (x ∈ zs) = r) :
    Calls Try.prog 79 #[.slice a n cap, .int .i64 x] w fun e w' => e = .returned (.bool r) ∧ w = w' := by
  have C := Lib.hide (bs_any a n cap zs x w hi hz hn hs)
  have HR := Lib.hide hr
  clear hi hz hs hr
  go_enter Try.func79, Try.ntmps79
  go_wp2_with (go_at_call 103; refine C.out.mono ?_; rintro e w' ⟨i, rfl, rfl⟩; rw [HR.out])
  go_ret
  exact ⟨rfl, rfl⟩

/-- Roots that may be. -/
def RootsOk (zs rs : List Int) : Prop := ∀ x ∈ rs, x = 0 ∨ x ∈ zs

theorem rootsOk_at {zs rs : List Int} : RootsOk zs rs ↔ ∀ i, i < rs.length → rs.getD i 0 = 0 ∨ rs.getD i 0 ∈ zs := by
  unfold RootsOk
  constructor
  · intro h i hi
    exact h _ (mem_at.2 ⟨i, hi, rfl⟩)
  · intro h x hx
    obtain ⟨i, hi, rfl⟩ := mem_at.1 hx
    exact h i hi

set_option maxHeartbeats 800000 in
theorem areRoots_any (a : Option Addr) (n cap : Nat) (zs : List Int) (a2 : Option Addr) (m cap2 : Nat) (rs : List Int) (w : World) (hi : Ints w a zs) (hz : zs.length = n) (hn : n ≤ 400) (hs : zs.Pairwise (· < ·))
    (hi2 : Ints w a2 rs) (hz2 : rs.length = m) (hm : m * 8 ≤ 140737488351232) (r : Bool) (hr : r = true ↔ RootsOk zs rs) :
    Calls Try.prog 56 #[.slice a n cap, .slice a2 m cap2] w fun e w' => e = .returned (.bool r) ∧ w = w' := by
  rw [rootsOk_at, hz2] at hr
  have HI := Lib.hide hi
  have HZ := Lib.hide hz
  have HS := Lib.hide hs
  have HI2 := Lib.hide hi2
  have HZ2 := Lib.hide hz2
  have HR := Lib.hide hr
  clear hi hz hs hi2 hz2 hr
  go_enter Try.func56, Try.ntmps56
  go_wp2
  go_loop [9] (fun u => ∃ i : Nat, i ≤ m ∧ u = .int .i64 i ∧ ∀ k, k < i → rs.getD k 0 = 0 ∨ rs.getD k 0 ∈ zs) (fun u => m - (intOf u).toNat)
  case atStart => exact ⟨0, Nat.zero_le _, rfl, fun k hk => absurd hk (Nat.not_lt_zero _)⟩
  case round =>
    obtain ⟨i, hin, rfl, hlo⟩ := hrel
    have HLO := Lib.hide hlo
    clear hlo
    by_cases hlt : i < m
    · obtain ⟨b, o, rfl, hb, hc⟩ := HI2.out.at (by rw [HZ2.out]; omega)
      have e1 := hc i (by rw [HZ2.out]; omega)
      clear hc
      obtain ⟨y, hy⟩ : ∃ y, rs.getD i 0 = y := ⟨_, rfl⟩
      rw [hy] at e1
      have HY := Lib.hide hy
      clear hy
      by_cases hy0 : y = 0
      · have hd : (y != 0) = false := by simpa using hy0
        have HY0 := Lib.hide hy0
        clear hy0
        go_wp2
        go_round
        case rel =>
          refine ⟨i + 1, by omega, by go_num, fun k hk => ?_⟩
          rcases Nat.lt_or_ge k i with h | h
          · exact HLO.out k h
          · obtain rfl : k = i := by omega
            rw [HY.out]; exact .inl HY0.out
        case measure => simp [intOf]; omega
      · have hd : (y != 0) = true := by simpa using hy0
        have HY0 := Lib.hide hy0
        clear hy0
        by_cases hm' : y ∈ zs
        · have C := Lib.hide (fun w (h : Ints w a zs) => gcIsPlace_any a n cap zs y w h HZ.out hn HS.out true (decide_eq_true hm'))
          have HM := Lib.hide hm'
          clear hm'
          go_wp2_with (go_at_call 79; refine (C.out _ HI.out).mono ?_; rintro e w' ⟨rfl, rfl⟩)
          go_round
          case rel =>
            refine ⟨i + 1, by omega, by go_num, fun k hk => ?_⟩
            rcases Nat.lt_or_ge k i with h | h
            · exact HLO.out k h
            · obtain rfl : k = i := by omega
              rw [HY.out]; exact .inr HM.out
          case measure => simp [intOf]; omega
        · have C := Lib.hide (fun w (h : Ints w a zs) => gcIsPlace_any a n cap zs y w h HZ.out hn HS.out false (decide_eq_false hm'))
          have hrf : r = false := by
            cases r
            · rfl
            · have := HR.out.1 rfl i hlt
              rw [HY.out] at this
              exact absurd (this.resolve_left HY0.out) hm'
          subst hrf
          clear hm'
          go_wp2_with (go_at_call 79; refine (C.out _ HI.out).mono ?_; rintro e w' ⟨rfl, rfl⟩)
          go_ret
          exact ⟨rfl, rfl⟩
    · have hrt : r = true := HR.out.2 (fun k hk => HLO.out k (by omega))
      subst hrt
      go_wp2
      go_ret
      exact ⟨rfl, rfl⟩

/-- The words of the fields of the object at p. -/
def fieldsAt (xs : List Int) (p f : Nat) : List Int := (xs.drop (p + 2)).take f
theorem fieldsAt_length {xs : List Int} {p f : Nat} (h : p + 2 + f ≤ xs.length) : (fieldsAt xs p f).length = f := by
  unfold fieldsAt
  simp
  omega
theorem fieldsAt_getD {xs : List Int} {p f k : Nat} (hk : k < f) : (fieldsAt xs p f).getD k 0 = xs.getD (p + 2 + k) 0 := by
  unfold fieldsAt
  simp [List.getD_eq_getElem?_getD, List.getElem?_take, List.getElem?_drop, hk]

/-- A slice of the fields of an object. -/
def FieldsPost (w : World) (xs : List Int) (p f : Nat) (a : Option Addr) (e : Ending) (w' : World) : Prop :=
  ∃ a' c', e = .returned (.slice a' f c') ∧ f ≤ c' ∧ c' ≤ 9223372036854775807 ∧ Ints w' a' (fieldsAt xs p f) ∧ (0 < f → ∃ b o, a = some ⟨b, o, none⟩ ∧ a' = some ⟨b, o + (p + 2), none⟩) ∧ Below w.heap.size w w'

set_option maxHeartbeats 800000 in
theorem fields_any (a : Option Addr) (n cap : Nat) (xs : List Int) (top : Int) (p f : Nat) (w : World) (hi : Ints w a xs) (hx : xs.length = n) (hn : n ≤ 400) (hcap : n ≤ cap) (hr : cap ≤ 9223372036854775807) (hp : p + 2 + f ≤ n) (hf : xs.getD (p + 1) 0 = (f : Int)) :
    Calls Try.prog 81 #[.agg #[.slice a n cap, .int .i64 top], .int .i64 p] w (FieldsPost w xs p f a) := by
  obtain ⟨b, o, rfl, hb, hc⟩ := hi.at (by omega)
  have e1 := hc (p + 1) (by omega)
  rw [hf] at e1
  have HC := Lib.hide hc
  have HX := Lib.hide hx
  clear hi hx hf hc
  by_cases hf0 : f = 0
  · subst hf0
    have fin : ∀ a' c' w', c' ≤ 9223372036854775807 → Below w.heap.size w w' → FieldsPost w xs p 0 (some ⟨b, o, none⟩) (.returned (.slice a' 0 c')) w' :=
      fun a' c' w' hc hb => ⟨a', c', rfl, Nat.zero_le _, hc, .inl (by simp [fieldsAt]), fun h => absurd h (Nat.lt_irrefl _), hb⟩
    have FIN := Lib.hide fin
    clear fin
    by_cases hcp : cap = p + 2
    · subst hcp
      go_enter Try.func81, Try.ntmps81
      go_wp2
      go_quiet (fail)
      go_wp2
      go_ret
      exact FIN.out _ _ _ (by omega) (by repeat (first | exact Below.refl _ _ | assumption | refine Below.drew ?_ | refine below_drewN ?_ _ | refine Below.allocs ?_ | refine Below.next ?_ (by assumption) | refine Below.setCell ?_ (by dsimp only; omega) _))
    · go_enter Try.func81, Try.ntmps81
      go_wp2
      go_quiet (fail)
      go_wp2
      go_ret
      exact FIN.out _ _ _ (by omega) (by repeat (first | exact Below.refl _ _ | assumption | refine Below.drew ?_ | refine below_drewN ?_ _ | refine Below.allocs ?_ | refine Below.next ?_ (by assumption) | refine Below.setCell ?_ (by dsimp only; omega) _))
  · have hcp : ¬ cap = p + 2 := by omega
    go_enter Try.func81, Try.ntmps81
    go_wp2
    go_quiet (fail)
    go_wp2
    go_ret
    have e2 : p + 2 + f - (p + 2) = f := by omega
    refine ⟨some ⟨b, o + (p + 2), none⟩, cap - (p + 2), by rw [e2]; rfl, by omega, by omega, ?_, fun _ => ⟨b, o, rfl, rfl⟩, (by repeat (first | exact Below.refl _ _ | assumption | refine Below.drew ?_ | refine below_drewN ?_ _ | refine Below.allocs ?_ | refine Below.next ?_ (by assumption) | refine Below.setCell ?_ (by dsimp only; omega) _))⟩
    refine Ints.below (w := w) (.inr ⟨b, o + (p + 2), rfl, hb, fun k hk => ?_⟩) (by repeat (first | exact Below.refl _ _ | assumption | refine Below.drew ?_ | refine below_drewN ?_ _ | refine Below.allocs ?_ | refine Below.next ?_ (by assumption) | refine Below.setCell ?_ (by dsimp only; omega) _))
    rw [fieldsAt_length (by rw [HX.out]; omega)] at hk
    rw [fieldsAt_getD hk, Nat.add_assoc]
    exact HC.out (p + 2 + k) (by rw [HX.out]; omega)
end Go.Proofs.Ytpdcaoagpjcgbab

/-
  Plain mathematics of reachability in a heap of words. No program is named here. It proves no statement by itself.
-/
namespace Go.Proofs.Ytpdcaoagpjcgbab

/-- The object at p refers to the address q. -/
def Refers (xs : List Int) (p : Nat) (q : Int) : Prop := ∃ k : Nat, (k : Int) < xs.getD (p + 1) 0 ∧ xs.getD (p + 2 + k) 0 % 2 = 1 ∧ xs.getD (p + 2 + k) 0 / 2 = q ∧ q ≠ 0

/-- Reachable from the roots. -/
inductive Reached (xs : List Int) (rs : List Int) : Int → Prop where
  | root {q : Int} : q ∈ rs → q ≠ 0 → Reached xs rs q
  | step {p : Nat} {q : Int} : Reached xs rs (p : Int) → Refers xs p q → Reached xs rs q

open Lw in
theorem Refers.mem {xs : List Int} {l : List Nat} {p : Nat} {q : Int} (hf : FieldsOk xs l) (hp : p ∈ l) (h : Refers xs p q) : q ∈ nums l := by
  obtain ⟨k, hk, h1, rfl, h0⟩ := h
  rcases (hf p hp k hk).1 h1 with h2 | ⟨r, hr, h2⟩
  · rw [h2] at h0; exact absurd rfl h0
  · rw [← h2]; exact mem_nums.2 hr

open Lw in
theorem Reached.mem {xs rs : List Int} {l : List Nat} (hf : FieldsOk xs l) (hr : RootsOk (nums l) rs) {q : Int} (h : Reached xs rs q) : q ∈ nums l := by
  induction h with
  | root h h0 => exact (hr _ h).resolve_left h0
  | step _ h ih => exact h.mem hf (mem_nums.1 ih)

/-- A set that holds the roots and what its members refer to holds all that is reachable. -/
theorem Reached.closed {xs rs : List Int} {m : Int → Bool} (h1 : ∀ q ∈ rs, q ≠ 0 → m q = true) (h2 : ∀ (p : Nat) (q : Int), m p = true → Refers xs p q → m q = true) {q : Int} (h : Reached xs rs q) : m q = true := by
  induction h with
  | root h h0 => exact h1 _ h h0
  | step _ h ih => exact h2 _ _ ih h

/-- The list of the reachable objects, in order. -/
def ReachOf (xs : List Int) (l : List Nat) (rs zs : List Int) : Prop := ∃ m : Int → Bool, zs = (nums l).filter m ∧ ∀ q ∈ nums l, (m q = true ↔ Reached xs rs q)

theorem ReachOf.unique {xs rs zs zs' : List Int} {l : List Nat} (h : ReachOf xs l rs zs) (h' : ReachOf xs l rs zs') : zs = zs' := by
  obtain ⟨m, rfl, h1⟩ := h
  obtain ⟨m', rfl, h2⟩ := h'
  refine List.filter_congr fun q hq => ?_
  rw [Bool.eq_iff_iff, h1 q hq, h2 q hq]

open Lw in
theorem ReachOf.mem {xs rs zs : List Int} {l : List Nat} (h : ReachOf xs l rs zs) (hf : FieldsOk xs l) (hr : RootsOk (nums l) rs) {q : Int} : q ∈ zs ↔ Reached xs rs q := by
  obtain ⟨m, rfl, h1⟩ := h
  rw [List.mem_filter]
  constructor
  · rintro ⟨h2, h3⟩
    exact (h1 q h2).1 h3
  · intro h2
    have h3 := h2.mem hf hr
    exact ⟨h3, (h1 q h3).2 h2⟩

theorem ReachOf.length {xs rs zs : List Int} {l : List Nat} (h : ReachOf xs l rs zs) : zs.length ≤ l.length := by
  obtain ⟨m, rfl, _⟩ := h
  have := List.length_filter_le m (nums l)
  rwa [nums_length] at this

theorem ReachOf.sorted {xs rs zs : List Int} {l : List Nat} (h : ReachOf xs l rs zs) (hs : l.Pairwise (· < ·)) : zs.Pairwise (· < ·) := by
  obtain ⟨m, rfl, _⟩ := h
  exact (nums_sorted hs).filter _

/-- How many of a list are not marked. -/
def unmarked (l : List Int) (m : Int → Bool) : Nat := (l.filter (fun x => !m x)).length

theorem unmarked_set {l : List Int} {m : Int → Bool} {p : Int} (hp : p ∈ l) (hm : m p = false) : unmarked l (setAt m p true) + 1 ≤ unmarked l m := by
  unfold unmarked
  induction l with
  | nil => cases hp
  | cons x l ih =>
    have hle : ∀ l : List Int, (l.filter (fun x => !setAt m p true x)).length ≤ (l.filter (fun x => !m x)).length := by
      intro l
      induction l with
      | nil => simp
      | cons x l ih =>
        by_cases hx : x = p
        · subst hx
          simp [List.filter_cons, setAt_same, hm]
          omega
        · simp only [List.filter_cons, setAt_other m true hx]
          split <;> (try simp only [List.length_cons]) <;> omega
    by_cases hx : x = p
    · subst hx
      simp only [List.filter_cons, setAt_same, hm]
      have := hle l
      simp
      omega
    · have := ih ((List.mem_cons.1 hp).resolve_left (fun h => hx h.symm))
      simp only [List.filter_cons, setAt_other m true hx]
      split <;> (try simp only [List.length_cons]) <;> omega

/-- What holds between two steps of a search: the marked are reachable; what is marked, and neither open nor the one at hand, refers to the marked alone. -/
structure Search (xs rs : List Int) (l : List Nat) (cur : Int) (m : Int → Bool) (st : List Int) : Prop where
  mem : ∀ q, m q = true → q ∈ nums l ∧ Reached xs rs q
  opens : ∀ q ∈ st, m q = true
  shut : ∀ (p : Nat) (q : Int), m p = true → (p : Int) ∉ st → (p : Int) ≠ cur → Refers xs p q → m q = true

theorem setAt_mono {m : Int → Bool} {q x : Int} (h : m x = true) : setAt m q true x = true := by
  by_cases h' : x = q
  · subst h'; exact setAt_same _ _ _
  · rw [setAt_other _ _ h']; exact h

theorem Search.start (xs rs : List Int) (l : List Nat) : Search xs rs l 0 (fun _ => false) [] := ⟨fun q h => (by cases h), fun q h => (by cases h), fun p q h => (by cases h)⟩

theorem Search.push {xs rs : List Int} {l : List Nat} {cur : Int} {m : Int → Bool} {st : List Int} (h : Search xs rs l cur m st) {q : Int} (hq : q ∈ nums l) (hr : Reached xs rs q) : Search xs rs l cur (setAt m q true) (st ++ [q]) := by
  refine ⟨fun x hx => ?_, fun x hx => ?_, fun p x hp hn hc hr' => ?_⟩
  · by_cases h' : x = q
    · subst h'; exact ⟨hq, hr⟩
    · rw [setAt_other _ _ h'] at hx; exact h.mem x hx
  · rcases List.mem_append.1 hx with hx | hx
    · exact setAt_mono (h.opens x hx)
    · simp at hx; subst hx; exact setAt_same _ _ _
  · simp at hn
    rw [setAt_other _ _ hn.2] at hp
    exact setAt_mono (h.shut p x hp hn.1 hc hr')

/-- An open one is taken up. -/
theorem Search.take {xs rs : List Int} {l : List Nat} {m : Int → Bool} {st : List Int} {p : Int} (h : Search xs rs l 0 m (st ++ [p])) (h1 : ∀ p ∈ l, 1 ≤ p) : Search xs rs l p m st :=
  ⟨h.mem, fun q hq => h.opens q (List.mem_append_left _ hq), fun r q hr hn hc hf => h.shut r q hr (by simp; exact ⟨hn, hc⟩) (fun e => by
    have := h1 r (mem_nums.1 (h.mem r hr).1)
    omega) hf⟩

/-- The one at hand is done. -/
theorem Search.done {xs rs : List Int} {l : List Nat} {m : Int → Bool} {st : List Int} {p : Nat} (h : Search xs rs l p m st) (hp : ∀ q, Refers xs p q → m q = true) : Search xs rs l 0 m st :=
  ⟨h.mem, h.opens, fun r q hr hn _ hf => by
    by_cases e : (r : Int) = p
    · obtain rfl : r = p := by omega
      exact hp q hf
    · exact h.shut r q hr hn e hf⟩

/-- Nothing is open: the marked are the reachable. -/
theorem Search.all {xs rs : List Int} {l : List Nat} {m : Int → Bool} (h : Search xs rs l 0 m []) (h1 : ∀ p ∈ l, 1 ≤ p) (h0 : ∀ q ∈ rs, q ≠ 0 → m q = true) (q : Int) : m q = true ↔ Reached xs rs q := by
  refine ⟨fun hq => (h.mem q hq).2, fun hq => hq.closed h0 (fun p q hp hr => h.shut p q hp (by simp) (fun e => ?_) hr)⟩
  have := h1 p (mem_nums.1 (h.mem p hp).1)
  omega

theorem unmarked_le (l : List Int) (m : Int → Bool) : unmarked l m ≤ l.length := List.length_filter_le _ _
end Go.Proofs.Ytpdcaoagpjcgbab

/-
  Plain mathematics of heaps of words: what storing a field and creating an object do to a heap. No program is named here. It proves no statement by itself.
-/
namespace Go.Proofs.Ytpdcaoagpjcgbab.Lw

theorem getD_set (xs : List Int) (i j : Nat) (y : Int) : (xs.set i y).getD j 0 = if i = j ∧ i < xs.length then y else xs.getD j 0 := by
  simp only [List.getD_eq_getElem?_getD, List.getElem?_set]
  by_cases h : i = j
  · subst h
    by_cases h2 : i < xs.length
    · simp [h2]
    · simp [h2]
  · simp [h]
theorem getD_set_ne {xs : List Int} {i j : Nat} {y : Int} (h : i ≠ j) : (xs.set i y).getD j 0 = xs.getD j 0 := by rw [getD_set, if_neg (by omega)]
theorem getD_set_eq {xs : List Int} {i : Nat} {y : Int} (h : i < xs.length) : (xs.set i y).getD i 0 = y := by rw [getD_set, if_pos ⟨rfl, h⟩]

/-- Objects lie one behind the other: none reaches into the next. -/
theorem objs_apart {xs : List Int} {top : Nat} : ∀ (k p : Nat) (l : List Nat), top ≤ p + k → objs xs top p = some l → l.Pairwise (fun q r => nextOf xs q ≤ r) := by
  intro k
  induction k with
  | zero =>
    intro p l hk h
    rw [objs_end (by omega)] at h
    injection h with h
    subst h
    exact List.Pairwise.nil
  | succ k ih =>
    intro p l hk h
    by_cases hp : p < top
    · by_cases hf : Fit xs top p
      · rw [objs_step hp hf] at h
        obtain ⟨l', h', rfl⟩ := Option.map_eq_some_iff.1 h
        have hk' : top ≤ nextOf xs p + k := by unfold nextOf; omega
        refine List.pairwise_cons.2 ⟨fun q hq => ?_, ih _ _ hk' h'⟩
        exact ((objs_spec k (nextOf xs p) l' hk' h').1 q hq).1
      · rw [objs_none hp hf] at h; cases h
    · rw [objs_end (by omega)] at h
      injection h with h
      subst h
      exact List.Pairwise.nil

theorem fit_of_head {xs ys : List Int} {top top' p : Nat} (h : ys.getD (p + 1) 0 = xs.getD (p + 1) 0) (ht : top ≤ top') (hf : Fit xs top p) : Fit ys top' p := by
  unfold Fit at hf ⊢
  rw [h]
  omega

/-- Where the heads are the same, so are the objects; what lies behind follows. -/
theorem objs_extend {xs ys : List Int} {top top' : Nat} (ht : top ≤ top') : ∀ (k p : Nat) (l : List Nat), top ≤ p + k → p ≤ top → objs xs top p = some l → (∀ q ∈ l, ys.getD (q + 1) 0 = xs.getD (q + 1) 0) →
    objs ys top' p = (objs ys top' top).map (l ++ ·) := by
  intro k
  induction k with
  | zero =>
    intro p l hk hp h _
    obtain rfl : p = top := by omega
    rw [objs_end (Nat.le_refl _)] at h
    injection h with h
    subst h
    simp
  | succ k ih =>
    intro p l hk hpt h hh
    by_cases hp : p < top
    · by_cases hf : Fit xs top p
      · rw [objs_step hp hf] at h
        obtain ⟨l', h', rfl⟩ := Option.map_eq_some_iff.1 h
        have hhp := hh p (by simp)
        have hk' : top ≤ nextOf xs p + k := by unfold nextOf; omega
        have hle : nextOf xs p ≤ top := by unfold nextOf; exact hf.2.2.2
        have hn : nextOf ys p = nextOf xs p := by unfold nextOf; rw [hhp]
        rw [objs_step (by omega) (fit_of_head hhp ht hf), hn, ih _ _ hk' hle h' (fun q hq => hh q (List.mem_cons_of_mem _ hq)), Option.map_map]
        rfl
      · rw [objs_none hp hf] at h; cases h
    · obtain rfl : p = top := by omega
      rw [objs_end (Nat.le_refl _)] at h
      injection h with h
      subst h
      simp

theorem objs_same {xs ys : List Int} {top : Nat} {l : List Nat} (h1 : 1 ≤ top) (h : objs xs top 1 = some l) (hh : ∀ q ∈ l, ys.getD (q + 1) 0 = xs.getD (q + 1) 0) : objs ys top 1 = some l := by
  rw [objs_extend (Nat.le_refl _) top 1 l (by omega) h1 h hh, objs_end (Nat.le_refl _)]
  simp

theorem FieldOk.more {l l' : List Nat} {w : Int} (h : FieldOk l w) (hl : ∀ p ∈ l, p ∈ l') : FieldOk l' w := by
  refine ⟨fun ho => ?_, h.2⟩
  rcases h.1 ho with h1 | ⟨p, hp, e⟩
  · exact .inl h1
  · exact .inr ⟨p, hl p hp, e⟩

/-- A place of a field is no head of an object. -/
theorem field_apart {xs : List Int} {top : Nat} {l : List Nat} (ho : objs xs top 1 = some l) {p q k : Nat} (hp : p ∈ l) (hq : q ∈ l) (hk : (k : Int) < xs.getD (p + 1) 0) : p + 2 + k ≠ q ∧ p + 2 + k ≠ q + 1 := by
  have ha := objs_apart top 1 l (by omega) ho
  have hs := (objs_spec top 1 l (by omega) ho).2
  have hlt : p + 2 + k < nextOf xs p := by unfold nextOf; omega
  rcases Nat.lt_trichotomy p q with h | h | h
  · have : nextOf xs p ≤ q := by
      obtain ⟨i, hi, rfl⟩ := List.mem_iff_getElem.1 hp
      obtain ⟨j, hj, rfl⟩ := List.mem_iff_getElem.1 hq
      have hij : i < j := by
        rcases Nat.lt_trichotomy i j with h' | h' | h'
        · exact h'
        · subst h'; omega
        · have := List.pairwise_iff_getElem.1 hs j i hj hi h'; omega
      exact List.pairwise_iff_getElem.1 ha i j hi hj hij
    omega
  · subst h; omega
  · have : nextOf xs q ≤ p := by
      obtain ⟨i, hi, rfl⟩ := List.mem_iff_getElem.1 hp
      obtain ⟨j, hj, rfl⟩ := List.mem_iff_getElem.1 hq
      have hij : j < i := by
        rcases Nat.lt_trichotomy i j with h' | h' | h'
        · have := List.pairwise_iff_getElem.1 hs i j hi hj h'; omega
        · subst h'; omega
        · exact h'
      exact List.pairwise_iff_getElem.1 ha j i hj hi hij
    unfold nextOf at this
    omega

/-- A heap behind a store of a good word into a field. -/
theorem Valid.store {xs : List Int} {top : Int} {l : List Nat} (hv : Valid xs top l) {p k : Nat} (hp : p ∈ l) (hk : (k : Int) < xs.getD (p + 1) 0) {y : Int} (hy : FieldOk l y) : Valid (xs.set (p + 2 + k) y) top l := by
  have ho := hv.objects.1
  have hap := fun q (hq : q ∈ l) => field_apart ho hp hq hk
  have hfit := ((objs_spec top.toNat 1 l (by omega) ho).1 p hp).2.2
  have hin : p + 2 + k < top.toNat := by have := hfit.2.2.2; omega
  have hlen : p + 2 + k < xs.length := by have := hv.top2; omega
  have hhead : ∀ q ∈ l, (xs.set (p + 2 + k) y).getD (q + 1) 0 = xs.getD (q + 1) 0 := fun q hq => getD_set_ne (hap q hq).2
  refine ⟨by rw [List.length_set]; exact hv.len1, by rw [List.length_set]; exact hv.len2, hv.top1, by rw [List.length_set]; exact hv.top2, ⟨objs_same (by have := hv.top1; omega) ho hhead, fun q hq => ?_⟩, fun q hq j hj => ?_, fun j h1 h2 => ?_⟩
  · unfold StOk
    rw [getD_set_ne (hap q hq).1]
    exact hv.objects.2 q hq
  · rw [hhead q hq] at hj
    rw [getD_set]
    split
    · exact hy
    · exact hv.fields q hq j hj
  · rw [List.length_set] at h2
    rw [getD_set_ne (by omega)]
    exact hv.rest j h1 h2

/-- A heap behind the creation of an object. -/
theorem Valid.alloc {xs : List Int} {t f : Nat} {l : List Nat} (hv : Valid xs (t : Int) l) (hf : f ≤ 6) (hfit : t + 2 + f ≤ xs.length) : Valid (xs.set (t + 1) f) ((t : Int) + (2 + f)) (l ++ [t]) := by
  have ho := hv.objects.1
  have hst := hv.objects.2
  have hrest := hv.rest
  rw [Int.toNat_natCast] at ho hrest
  have h1 := hv.top1
  have hspec := (objs_spec t 1 l (by omega) ho).1
  have e : ((t : Int) + (2 + f)).toNat = t + 2 + f := by omega
  have hhead : ∀ q ∈ l, (xs.set (t + 1) (f : Int)).getD (q + 1) 0 = xs.getD (q + 1) 0 := fun q hq => getD_set_ne (by have := (hspec q hq).2.2.1; omega)
  have hnew : (xs.set (t + 1) (f : Int)).getD (t + 1) 0 = f := getD_set_eq (by omega)
  have hobj : objs (xs.set (t + 1) (f : Int)) (t + 2 + f) 1 = some (l ++ [t]) := by
    rw [objs_extend (xs := xs) (top := t) (by omega) t 1 l (by omega) (by omega) ho hhead]
    have hF : Fit (xs.set (t + 1) (f : Int)) (t + 2 + f) t := by unfold Fit; rw [hnew]; omega
    have hN : nextOf (xs.set (t + 1) (f : Int)) t = t + 2 + f := by unfold nextOf; rw [hnew]; omega
    rw [objs_step (by omega) hF, hN, objs_end (Nat.le_refl _)]
    simp
  refine ⟨by rw [List.length_set]; exact hv.len1, by rw [List.length_set]; exact hv.len2, by omega, by rw [List.length_set]; omega, ⟨by rw [e]; exact hobj, fun q hq => ?_⟩, fun q hq j hj => ?_, fun j h2 h3 => ?_⟩
  · unfold StOk
    rcases List.mem_append.1 hq with hq | hq
    · rw [getD_set_ne (by have := (hspec q hq).2.2.1; omega)]
      exact hst q hq
    · simp at hq
      subst hq
      rw [getD_set_ne (by omega), hrest q (Nat.le_refl _) (by omega)]
      omega
  · rcases List.mem_append.1 hq with hq | hq
    · rw [hhead q hq] at hj
      have := (hspec q hq).2.2
      rw [getD_set_ne (by have := this.2.2.2; omega)]
      exact (hv.fields q hq j hj).more (fun p hp => List.mem_append.2 (.inl hp))
    · simp at hq
      subst hq
      rw [hnew] at hj
      rw [getD_set_ne (by omega), hrest (q + 2 + j) (by omega) (by omega)]
      exact ⟨fun h => by omega, fun _ => by omega⟩
  · rw [e] at h2
    rw [List.length_set] at h3
    rw [getD_set_ne (by omega)]
    exact hrest j (by omega) h3

theorem Valid.new (n : Nat) (h1 : 1 ≤ n) (h2 : n ≤ 400) : Valid (List.replicate n 0) 1 [] := by
  refine ⟨by simpa using h1, by simpa using h2, by omega, by simp; omega, ⟨objs_end (by decide), by simp⟩, by intro p hp; simp at hp, fun k _ hk => ?_⟩
  simp at hk
  simp [List.getD_eq_getElem?_getD, hk]

theorem Valid.none_top {xs : List Int} {top : Int} (hv : Valid xs top []) : top = 1 := by
  have ho := hv.objects.1
  have h1 := hv.top1
  by_cases h : 1 < top.toNat
  · by_cases hf : Fit xs top.toNat 1
    · rw [objs_step h hf] at ho
      obtain ⟨l', _, h'⟩ := Option.map_eq_some_iff.1 ho
      cases h'
    · rw [objs_none h hf] at ho; cases ho
  · omega
end Go.Proofs.Ytpdcaoagpjcgbab.Lw

/-
  Plain mathematics of compaction: where the kept objects go, and what the words are then. It proves no statement by itself.
-/
namespace Go.Proofs.Ytpdcaoagpjcgbab

/-- Addresses of a list, each behind the one before. -/
def InOrder (zs ks : List Int) : Prop := ∀ i, i < ks.length → ks.getD i 0 ∈ zs ∧ (0 < i → ks.getD (i - 1) 0 < ks.getD i 0)

/-- How many fields the object at p has. -/
def lenAt (xs : List Int) (p : Nat) : Nat := (xs.getD (p + 1) 0).toNat
/-- How many words objects take. -/
def wordsOf (xs : List Int) : List Nat → Nat
  | [] => 0
  | p :: ps => 2 + lenAt xs p + wordsOf xs ps
theorem wordsOf_append (xs : List Int) (ps qs : List Nat) : wordsOf xs (ps ++ qs) = wordsOf xs ps + wordsOf xs qs := by
  induction ps with
  | nil => simp [wordsOf]
  | cons p ps ih => simp only [List.cons_append, wordsOf, ih]; omega
/-- Where the j-th of the kept objects goes. -/
def toAt (xs : List Int) (qs : List Nat) (j : Nat) : Nat := 1 + wordsOf xs (qs.take j)
theorem toAt_zero (xs : List Int) (qs : List Nat) : toAt xs qs 0 = 1 := by simp [toAt, wordsOf]
theorem take_snoc_nat {qs : List Nat} {j : Nat} (hj : j < qs.length) : qs.take (j + 1) = qs.take j ++ [qs.getD j 0] := by
  rw [List.take_succ_eq_append_getElem hj]
  simp [List.getD_eq_getElem?_getD, List.getElem?_eq_getElem hj]
theorem toAt_succ {xs : List Int} {qs : List Nat} {j : Nat} (hj : j < qs.length) : toAt xs qs (j + 1) = toAt xs qs j + (2 + lenAt xs (qs.getD j 0)) := by
  unfold toAt
  rw [take_snoc_nat hj, wordsOf_append]
  simp only [wordsOf]
  omega

/-- Kept objects: some of the objects of a heap, in order. -/
structure Kept (l qs : List Nat) : Prop where
  sub : ∀ q ∈ qs, q ∈ l
  sorted : qs.Pairwise (· < ·)

theorem getD_mem {qs : List Nat} {j : Nat} (hj : j < qs.length) : qs.getD j 0 ∈ qs := by
  simp [List.getD_eq_getElem?_getD, List.getElem?_eq_getElem hj]

theorem chain_lt {ks : List Int} (h : ∀ i, i < ks.length → 0 < i → ks.getD (i - 1) 0 < ks.getD i 0) : ∀ (d i : Nat), i + d + 1 < ks.length → ks.getD i 0 < ks.getD (i + d + 1) 0
  | 0, i, hi => h (i + 1) hi (by omega)
  | d + 1, i, hi => by
    have h1 := chain_lt h d i (by omega)
    have h2 := h (i + (d + 1) + 1) hi (by omega)
    rw [show i + (d + 1) + 1 - 1 = i + d + 1 by omega] at h2
    omega

/-- A list of addresses in order is a list of kept objects. -/
theorem InOrder.kept {l : List Nat} {ks : List Int} (h : InOrder (nums l) ks) : ∃ qs, ks = nums qs ∧ Kept l qs := by
  have hmem : ∀ x ∈ ks, x ∈ nums l := fun x hx => by
    obtain ⟨i, hi, rfl⟩ := mem_at.1 hx
    exact (h i hi).1
  have hpos : ∀ x ∈ ks, ((x.toNat : Nat) : Int) = x := fun x hx => by
    have := hmem x hx
    simp [nums] at this
    obtain ⟨p, _, rfl⟩ := this
    simp
  have hk : ks = nums (ks.map Int.toNat) := by
    unfold nums
    rw [List.map_map]
    symm
    exact (List.map_congr_left (g := id) (fun x hx => hpos x hx)).trans (List.map_id ks)
  have hpw : ks.Pairwise (· < ·) := by
    rw [List.pairwise_iff_getElem]
    intro i j hi hj hij
    have := chain_lt (ks := ks) (fun i hi h0 => (h i hi).2 h0) (j - i - 1) i (by omega)
    rw [show i + (j - i - 1) + 1 = j by omega] at this
    simpa [List.getD_eq_getElem?_getD, List.getElem?_eq_getElem hi, List.getElem?_eq_getElem hj] using this
  refine ⟨ks.map Int.toNat, hk, ⟨fun q hq => ?_, ?_⟩⟩
  · obtain ⟨x, hx, rfl⟩ := List.mem_map.1 hq
    have := hmem x hx
    rw [← hpos x hx] at this
    exact mem_nums.1 this
  · have h2 := hpw
    rw [hk] at h2
    unfold nums at h2
    rw [List.pairwise_map] at h2
    exact h2.imp (fun h => by omega)

theorem Kept.inOrder {l qs : List Nat} (h : Kept l qs) : InOrder (nums l) (nums qs) := by
  intro i hi
  rw [nums_length] at hi
  rw [nums_getD, nums_getD]
  refine ⟨mem_nums.2 (h.sub _ (getD_mem hi)), fun h0 => ?_⟩
  have := sorted_at (nums_sorted h.sorted) (i := i - 1) (j := i) (by omega) (by rw [nums_length]; exact hi)
  rw [nums_getD, nums_getD] at this
  exact this

/-- Objects do not overlap. -/
theorem objs_gap {xs : List Int} {top : Nat} {l : List Nat} (h : Lw.objs xs top 1 = some l) : ∀ a ∈ l, ∀ b ∈ l, a < b → a + 2 + lenAt xs a ≤ b := by
  intro a ha b hb hab
  have h1 := Lw.objs_apart top 1 l (by omega) h
  obtain ⟨i, hi, rfl⟩ := List.mem_iff_getElem.1 ha
  obtain ⟨j, hj, rfl⟩ := List.mem_iff_getElem.1 hb
  rcases Nat.lt_trichotomy i j with hij | hij | hij
  · exact List.pairwise_iff_getElem.1 h1 i j hi hj hij
  · subst hij; omega
  · have := List.pairwise_iff_getElem.1 h1 j i hj hi hij
    unfold Lw.nextOf at this
    omega

open Lw in
/-- What is known of kept objects of a valid heap. -/
structure Room (xs : List Int) (t : Nat) (l qs : List Nat) : Prop where
  kept : Kept l qs
  laid : Laid xs t l
  apart : ∀ a ∈ l, ∀ b ∈ l, a < b → a + 2 + lenAt xs a ≤ b

open Lw in
theorem Room.of {xs : List Int} {t : Nat} {l qs : List Nat} (ho : Objects xs t l) (hk : Kept l qs) : Room xs t l qs := ⟨hk, Objects.laid ho, objs_gap ho.1⟩

theorem Room.fit {xs : List Int} {t : Nat} {l qs : List Nat} (h : Room xs t l qs) {q : Nat} (hq : q ∈ qs) : 1 ≤ q ∧ q + 2 + lenAt xs q ≤ t ∧ lenAt xs q ≤ 6 ∧ xs.getD (q + 1) 0 = (lenAt xs q : Int) := by
  obtain ⟨h1, f1, f2, f3, f4⟩ := h.laid.fit q (h.kept.sub q hq)
  unfold lenAt
  exact ⟨h1, f4, by omega, by omega⟩

theorem Room.le {xs : List Int} {t : Nat} {l qs : List Nat} (h : Room xs t l qs) : ∀ j, j < qs.length → toAt xs qs j ≤ qs.getD j 0
  | 0, hj => by
    rw [toAt_zero]
    exact (h.fit (getD_mem hj)).1
  | j + 1, hj => by
    have ih := h.le j (by omega)
    rw [toAt_succ (by omega)]
    have hlt : qs.getD j 0 < qs.getD (j + 1) 0 := by
      have := sorted_at (nums_sorted h.kept.sorted) (i := j) (j := j + 1) (by omega) (by rw [nums_length]; exact hj)
      rw [nums_getD, nums_getD] at this
      omega
    have := h.apart _ (h.kept.sub _ (getD_mem (j := j) (by omega))) _ (h.kept.sub _ (getD_mem hj)) hlt
    omega

theorem Room.end_le {xs : List Int} {t : Nat} {l qs : List Nat} (h : Room xs t l qs) (h1 : 1 ≤ t) : ∀ j, j ≤ qs.length → toAt xs qs j ≤ t
  | 0, _ => by rw [toAt_zero]; exact h1
  | j + 1, hj => by
    rw [toAt_succ (by omega)]
    have := h.le j (by omega)
    have := (h.fit (getD_mem (j := j) (by omega))).2.1
    omega

/-- The moves: each kept object's old and new address. -/
def planOf (xs : List Int) (qs : List Nat) (j : Nat) : List (Nat × Nat) := (List.range j).map fun i => (qs.getD i 0, toAt xs qs i)
theorem planOf_length (xs : List Int) (qs : List Nat) (j : Nat) : (planOf xs qs j).length = j := by simp [planOf]
theorem planOf_succ (xs : List Int) (qs : List Nat) (j : Nat) : planOf xs qs (j + 1) = planOf xs qs j ++ [(qs.getD j 0, toAt xs qs j)] := by simp [planOf, List.range_succ]

theorem nums_append (a b : List Nat) : nums (a ++ b) = nums a ++ nums b := by simp [nums]

/-- What is known of the table of new addresses of the first j kept objects. -/
structure Dest (xs : List Int) (qs : List Nat) (j : Nat) (m : Int → Option Int) : Prop where
  zero : m 0 = some 0
  new : ∀ i, i < j → m ((qs.getD i 0 : Nat) : Int) = some ((toAt xs qs i : Nat) : Int)
  other : ∀ x, x ≠ 0 → x ∉ nums (qs.take j) → m x = none

theorem Dest.start (xs : List Int) (qs : List Nat) : Dest xs qs 0 (setAt (fun _ => none) 0 (some 0)) :=
  ⟨setAt_same _ _ _, fun i hi => absurd hi (Nat.not_lt_zero _), fun x hx _ => by rw [setAt_other _ _ hx]⟩

theorem Dest.step {xs : List Int} {qs : List Nat} {j : Nat} {m : Int → Option Int} (h : Dest xs qs j m) (hj : j < qs.length) (hs : qs.Pairwise (· < ·)) (h0 : qs.getD j 0 ≠ 0) :
    Dest xs qs (j + 1) (setAt m ((qs.getD j 0 : Nat) : Int) (some ((toAt xs qs j : Nat) : Int))) := by
  refine ⟨?_, fun i hi => ?_, fun x hx hn => ?_⟩
  · rw [setAt_other _ _ (by omega)]; exact h.zero
  · rcases Nat.lt_or_ge i j with h' | h'
    · have := sorted_at (nums_sorted hs) (i := i) (j := j) h' (by rw [nums_length]; exact hj)
      rw [nums_getD, nums_getD] at this
      rw [setAt_other _ _ (by omega)]
      exact h.new i h'
    · obtain rfl : i = j := by omega
      exact setAt_same _ _ _
  · rw [take_snoc_nat hj, nums_append] at hn
    have hn1 : x ∉ nums (qs.take j) := fun hm => hn (List.mem_append_left _ hm)
    have hn2 : x ≠ ((qs.getD j 0 : Nat) : Int) := fun hm => hn (List.mem_append_right _ (by simp [nums, hm]))
    rw [setAt_other _ _ hn2]
    exact h.other x hx hn1

theorem Dest.unique {xs : List Int} {qs : List Nat} {m m' : Int → Option Int} (h : Dest xs qs qs.length m) (h' : Dest xs qs qs.length m') : m = m' := by
  funext x
  by_cases hx : x = 0
  · subst hx; rw [h.zero, h'.zero]
  · by_cases hm : x ∈ nums qs
    · obtain ⟨i, hi, rfl⟩ := mem_at.1 hm
      rw [nums_length] at hi
      rw [nums_getD, h.new i hi, h'.new i hi]
    · have e : nums (qs.take qs.length) = nums qs := by rw [List.take_length]
      rw [h.other x hx (by rw [e]; exact hm), h'.other x hx (by rw [e]; exact hm)]

theorem Dest.has {xs : List Int} {qs : List Nat} {m : Int → Option Int} (h : Dest xs qs qs.length m) {x : Int} : (m x).isSome = true ↔ x = 0 ∨ x ∈ nums qs := by
  constructor
  · intro hs
    by_cases hx : x = 0
    · exact .inl hx
    · refine .inr (Classical.byContradiction fun hn => ?_)
      rw [h.other x hx (by rw [List.take_length]; exact hn)] at hs
      cases hs
  · rintro (rfl | hm)
    · rw [h.zero]; rfl
    · obtain ⟨i, hi, rfl⟩ := mem_at.1 hm
      rw [nums_length] at hi
      rw [nums_getD, h.new i hi]; rfl

/-- All that the kept objects refer to is kept. -/
def Closed (xs : List Int) (qs : List Nat) (j : Nat) : Prop := ∀ i, i < j → ∀ q, Refers xs (qs.getD i 0) q → q ∈ nums qs

/-- A word, its reference led to where its object goes. -/
def redir (m : Int → Option Int) (y : Int) : Int := if y % 2 = 1 then 2 * ((m (y / 2)).getD 0) + 1 else y

/-- The words of an object that has moved. -/
def objWords (xs : List Int) (m : Int → Option Int) (p : Nat) : List Int := xs.getD p 0 :: xs.getD (p + 1) 0 :: (fieldsAt xs p (lenAt xs p)).map (redir m)
/-- The words in front, up to the j-th object. -/
def front (xs : List Int) (m : Int → Option Int) (qs : List Nat) (j : Nat) : List Int := 0 :: (qs.take j).flatMap (objWords xs m)
/-- The words of a heap of n words behind j moves. -/
def built (n : Nat) (xs : List Int) (m : Int → Option Int) (qs : List Nat) (j : Nat) : List Int := front xs m qs j ++ List.replicate (n - (front xs m qs j).length) 0

theorem objWords_length {xs : List Int} {m : Int → Option Int} {p : Nat} (h : p + 2 + lenAt xs p ≤ xs.length) : (objWords xs m p).length = 2 + lenAt xs p := by
  unfold objWords
  simp [fieldsAt_length h]
  omega

theorem front_zero (xs : List Int) (m : Int → Option Int) (qs : List Nat) : front xs m qs 0 = [0] := by simp [front]
theorem front_succ {xs : List Int} {m : Int → Option Int} {qs : List Nat} {j : Nat} (hj : j < qs.length) : front xs m qs (j + 1) = front xs m qs j ++ objWords xs m (qs.getD j 0) := by
  unfold front
  rw [take_snoc_nat hj]
  simp

theorem Room.front_length {xs : List Int} {t : Nat} {l qs : List Nat} (h : Room xs t l qs) (ht : t ≤ xs.length) (m : Int → Option Int) : ∀ j, j ≤ qs.length → (front xs m qs j).length = toAt xs qs j
  | 0, _ => by rw [front_zero, toAt_zero]; rfl
  | j + 1, hj => by
    rw [front_succ (by omega), List.length_append, h.front_length ht m j (by omega), toAt_succ (by omega), objWords_length]
    have := (h.fit (getD_mem (j := j) (by omega))).2.1
    omega

theorem Room.built_length {xs : List Int} {t : Nat} {l qs : List Nat} (h : Room xs t l qs) (h1 : 1 ≤ t) (ht : t ≤ xs.length) {n : Nat} (hn : xs.length = n) (m : Int → Option Int) {j : Nat} (hj : j ≤ qs.length) : (built n xs m qs j).length = n := by
  unfold built
  have h2 := h.front_length ht m j hj
  have h3 := h.end_le h1 j hj
  rw [List.length_append, List.length_replicate, h2]
  omega

theorem built_zero (n : Nat) (xs : List Int) (m : Int → Option Int) (qs : List Nat) (hn : 1 ≤ n) : built n xs m qs 0 = List.replicate n 0 := by
  unfold built
  rw [front_zero]
  obtain ⟨k, rfl⟩ : ∃ k, n = k + 1 := ⟨n - 1, by omega⟩
  simp [List.replicate_succ]
end Go.Proofs.Ytpdcaoagpjcgbab

/-
  The walks of the closure in gc.mark and of gc.mark: all reachable objects are marked, and no others. It proves no statement by itself.
-/
namespace Go.Proofs.Ytpdcaoagpjcgbab
open Go.RowKit

/-- What mark keeps in memory of its own, from block B on: the map of the marked, the variable that holds it, the variable that holds the open ones. -/
structure MarkSt (w : World) (B n : Nat) (m : Int → Bool) (st : List Int) : Prop where
  cm : w.heap[B + 1]? = some (.cells #[.map (some B)] 95 (0, 0))
  map : MapB w B n m
  cs : ∃ v, w.heap[B + 2]? = some (.cells #[v] 25 (0, 0)) ∧ Own w (B + 3) v st

theorem MarkSt.next {w w' : World} {B n : Nat} {m : Int → Bool} {st : List Int} (h : MarkSt w B n m st) (hb : Below w.heap.size w w') : MarkSt w' B n m st := by
  obtain ⟨h1, h2, v, h3, h4⟩ := h
  exact ⟨(hb.block _ (lt_of_block h1)).trans h1, h2.kept (hb.block _ h2.lt), v, (hb.block _ (lt_of_block h3)).trans h3, h4.below hb⟩

set_option maxHeartbeats 400000 in
theorem visit_zero (B n : Nat) (m : Int → Bool) (st : List Int) (w : World) (h : MarkSt w B n m st) :
    Calls Try.prog 80 #[.int .i64 0, .pointer (some ⟨B + 1, 0, none⟩), .pointer (some ⟨B + 2, 0, none⟩)] w fun e w' => e = .returned (.tuple #[]) ∧ w = w' := by
  clear h
  go_enter Try.func80, Try.ntmps80
  go_wp2
  go_end0
  exact ⟨rfl, rfl⟩

set_option maxHeartbeats 400000 in
theorem visit_old (p : Int) (B n : Nat) (m : Int → Bool) (st : List Int) (w : World) (h : MarkSt w B n m st) (hp : Fits p) (hp0 : p ≠ 0) (hm : m p = true) :
    Calls Try.prog 80 #[.int .i64 p, .pointer (some ⟨B + 1, 0, none⟩), .pointer (some ⟨B + 2, 0, none⟩)] w fun e w' => e = .returned (.tuple #[]) ∧ w = w' := by
  have c1 := cell_of_one h.cm
  have hl := h.map.look hp true hm
  have hd : (p != 0) = true := by simpa using hp0
  clear h hp hp0 hm
  go_enter Try.func80, Try.ntmps80
  go_wp2
  go_end0
  exact ⟨rfl, rfl⟩

/-- The list in a variable of its own, behind an append and the store. -/
theorem open_push {w w1 w2 : World} {B n : Nat} {m' : Int → Bool} {st : List Int} {v v' : Value} {p : Int} {o : Obj} (h1 : w.heap[B + 1]? = some (.cells #[.map (some B)] 95 (0, 0))) (hmap1 : MapB w1 B n m') (hg1 : w.grownBy w1 (some B))
    (h2 : w.heap[B + 2]? = some (.cells #[v] 25 (0, 0))) (hown : Own w (B + 3) v st)
    (hown' : w2.ownsRow (B + 3) 3 1 v' (st.length + 1) (st.map (Value.int .i64) ++ [.int .i64 p])) (hg2 : (w1.alloc o).grownBy w2 v.ownBlock) :
    (w2.heap[B + 2]? = some (.cells #[v] 25 (0, 0))) ∧ MarkSt (w2.setCell ⟨B + 2, 0, none⟩ v') B n m' (st ++ [p]) ∧ Below B w (w2.setCell ⟨B + 2, 0, none⟩ v') := by
  have hlt1 := lt_of_block h1
  have hlt2 := lt_of_block h2
  have hs1 := hg1.size
  have hvB : ∀ k, v.ownBlock = some k → B + 3 ≤ k := fun k hk => (World.ownsRow.lt hown k hk).1
  have hv'B : ∀ k, v'.ownBlock = some k → B + 3 ≤ k := fun k hk => (World.ownsRow.lt hown' k hk).1
  have blk : ∀ k, k < w.heap.size → k ≠ B → k < B + 3 → w2.heap[k]? = w.heap[k]? := fun k hk hne hlt => by
    rw [hg2.block k (by simp; omega) (fun e => by have := hvB k e.symm; omega), Below.heap_alloc _ _ _ (by omega)]
    exact hg1.block k hk (fun e => hne (Option.some.inj e))
  have hb2 := (blk (B + 2) hlt2 (by omega) (by omega)).trans h2
  have hb1 := (blk (B + 1) hlt1 (by omega) (by omega)).trans h1
  have hbm : MapB w2 B n m' := by
    refine hmap1.kept ?_
    rw [hg2.block B (by simp; omega) (fun e => by have := hvB B e.symm; omega), Below.heap_alloc _ _ _ (by omega)]
  refine ⟨hb2, ⟨?_, ?_, v', one_setCell hb2, ?_⟩, ?_⟩
  · exact (Below.heap_setCell _ _ _ _ (by simp)).trans hb1
  · exact hbm.kept (Below.heap_setCell _ _ _ _ (by simp))
  · unfold Own
    rw [List.map_append, List.length_append]
    exact ownsRow_setCell_other hown' (fun e => by have := hv'B _ e; simp at this) _
  · refine Below.setCell ?_ (by simp) _
    have b1 : Below B w w1 := (Below.refl B w).grown hg1 (by omega) (fun k hk => by cases hk; exact Nat.le_refl _)
    exact (b1.alloc (by omega) o).grown hg2 (by simp; omega) (fun k hk => by have := hvB k hk; omega)

set_option maxHeartbeats 800000 in
theorem visit_new (p : Int) (B n : Nat) (m : Int → Bool) (st : List Int) (w : World) (h : MarkSt w B n m st) (hp : Fits p) (hp0 : p ≠ 0) (hm : m p = false) (hn : n ≤ 1000) (hs : st.length ≤ 1000) :
    Calls Try.prog 80 #[.int .i64 p, .pointer (some ⟨B + 1, 0, none⟩), .pointer (some ⟨B + 2, 0, none⟩)] w fun e w' => e = .returned (.tuple #[]) ∧ MarkSt w' B (n + 1) (setAt m p true) (st ++ [p]) ∧ Below B w w' := by
  obtain ⟨i0, hi0, hz0, hz1, hz2⟩ := info_parts Try.intInfo
  obtain ⟨h1, h2, v, h3, h4⟩ := h
  have c1 := cell_of_one h1
  have hl := h2.look hp false hm
  have hd : (p != 0) = true := by simpa using hp0
  obtain ⟨w1, hrun, hmap1, hg1⟩ := h2.put (by unfold maxLen; omega) hp true
  have hc3 : w1.heap[B + 2]? = some (.cells #[v] 25 (0, 0)) := (hg1.block _ (lt_of_block h3) (fun e => by have := Option.some.inj e; omega)).trans h3
  have c3 := cell_of_one hc3
  have hvB : Hid (Own w1 (B + 3) v st) := World.ownsRow.kept h4 hg1 (.inr (fun e => by have := (World.ownsRow.lt h4 _ e).1; omega))
  have H1 := Lib.hide h1
  have H2 := Lib.hide hmap1
  have HG1 := Lib.hide hg1
  have H3 := Lib.hide h3
  have H4 := Lib.hide h4
  have HB := Lib.hide (lt_of_block hc3)
  clear h1 h2 h3 h4 hp hp0 hm hmap1 hg1 hc3
  go_enter Try.func80, Try.ntmps80
  go_wp2_with (at_builtin; refine wpList_append_own _ rfl (.tmp 14) (.tmp 16) 25 rfl (B + 3) 3 i0 (.int .i64 0) 1 8 Try.underlying25 hi0 hz0 hz1 hz2 rfl (by decide) v st.length _ rfl (World.ownsRow.alloc hvB.out _) ⟨w1.heap.size, 0, none⟩ 1 1 [.int .i64 p] rfl rfl (cell_one_new _ _ _) ?c2 ?c3 ?c4 ?c5 ?_)
  case c2 => intro u hu; simp at hu; subst hu; rfl
  case c3 => unfold maxLen; omega
  case c4 => omega
  case c5 => have := HB.out; simp; omega
  intro v' w2 hown' hg2 _
  have hO : Own w2 (B + 3) v' (st ++ [p]) := by
    unfold Own
    rw [List.map_append, List.length_append]
    exact hown'
  obtain ⟨a', c', hv', _⟩ := hO.ints
  rw [show (st ++ [p]).length = st.length + 1 by simp] at hv'
  subst hv'
  clear hO
  obtain ⟨hb2, hst, hbel⟩ := open_push H1.out H2.out HG1.out H3.out H4.out hown' hg2
  have d2 := cell_of_one hb2
  have f2 := free_of_one hb2
  have HST := Lib.hide hst
  have HBEL := Lib.hide hbel
  clear hown' hg2 hb2 hst hbel hrun hl c1 c3
  go_wp2
  go_end0
  exact ⟨rfl, HST.out, HBEL.out⟩
end Go.Proofs.Ytpdcaoagpjcgbab

