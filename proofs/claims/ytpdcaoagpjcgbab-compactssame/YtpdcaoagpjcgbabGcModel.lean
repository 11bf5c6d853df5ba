/-
  Plain mathematics of reachability in a heap of words. No program is named here. It proves no statement by itself.
-/
import Derived.Test.YtpdcaoagpjcgbabFieldsWalks
set_option linter.unusedVariables false
set_option linter.unusedSimpArgs false
namespace Go.Proofs.Ytpdcaoagpjcgbab

/-- The object at p refers to the address q. -/
def Refers (xs : List Int) (p : Nat) (q : Int) : Prop := ∃ k : Nat, (k : Int) < xs.getD (p + 1) 0 ∧ xs.getD (p + 2 + k) 0 % 2 = 1 ∧ xs.getD (p + 2 + k) 0 / 2 = q ∧ q ≠ 0

/-- Reachable from the roots. -/
inductive Reached (xs : List Int) (rs : List Int) : Int → Prop where
  | root {q : Int} : q ∈ rs → q ≠ 0 → Reached xs rs q
  | step {p : Nat} {q : Int} : Reached xs rs (p : Int) → Refers xs p q → Reached xs rs q

open Lw in
theorem Refers.mem {xs : List Int} {l : List Nat} {p : Nat} {q : Int} (hf : FieldsOk xs l) (hp : p ∈ l) (h : Refers xs p q) : q ∈ nums l := by
  obtain ⟨k, hk, h1, rfl, h0⟩ := h
  rcases (hf p hp k hk).1 h1 with h2 | ⟨r, hr, h2⟩
  · rw [h2] at h0; exact absurd rfl h0
  · rw [← h2]; exact mem_nums.2 hr

open Lw in
theorem Reached.mem {xs rs : List Int} {l : List Nat} (hf : FieldsOk xs l) (hr : RootsOk (nums l) rs) {q : Int} (h : Reached xs rs q) : q ∈ nums l := by
  induction h with
  | root h h0 => exact (hr _ h).resolve_left h0
  | step _ h ih => exact h.mem hf (mem_nums.1 ih)

/-- A set that holds the roots and what its members refer to holds all that is reachable. -/
theorem Reached.closed {xs rs : List Int} {m : Int → Bool} (h1 : ∀ q ∈ rs, q ≠ 0 → m q = true) (h2 : ∀ (p : Nat) (q : Int), m p = true → Refers xs p q → m q = true) {q : Int} (h : Reached xs rs q) : m q = true := by
  induction h with
  | root h h0 => exact h1 _ h h0
  | step _ h ih => exact h2 _ _ ih h

/-- The list of the reachable objects, in order. -/
def ReachOf (xs : List Int) (l : List Nat) (rs zs : List Int) : Prop := ∃ m : Int → Bool, zs = (nums l).filter m ∧ ∀ q ∈ nums l, (m q = true ↔ Reached xs rs q)

theorem ReachOf.unique {xs rs zs zs' : List Int} {l : List Nat} (h : ReachOf xs l rs zs) (h' : ReachOf xs l rs zs') : zs = zs' := by
  obtain ⟨m, rfl, h1⟩ := h
  obtain ⟨m', rfl, h2⟩ := h'
  refine List.filter_congr fun q hq => ?_
  rw [Bool.eq_iff_iff, h1 q hq, h2 q hq]

open Lw in
theorem ReachOf.mem {xs rs zs : List Int} {l : List Nat} (h : ReachOf xs l rs zs) (hf : FieldsOk xs l) (hr : RootsOk (nums l) rs) {q : Int} : q ∈ zs ↔ Reached xs rs q := by
  obtain ⟨m, rfl, h1⟩ := h
  rw [List.mem_filter]
  constructor
  · rintro ⟨h2, h3⟩
    exact (h1 q h2).1 h3
  · intro h2
    have h3 := h2.mem hf hr
    exact ⟨h3, (h1 q h3).2 h2⟩

theorem ReachOf.length {xs rs zs : List Int} {l : List Nat} (h : ReachOf xs l rs zs) : zs.length ≤ l.length := by
  obtain ⟨m, rfl, _⟩ := h
  have := List.length_filter_le m (nums l)
  rwa [nums_length] at this

theorem ReachOf.sorted {xs rs zs : List Int} {l : List Nat} (h : ReachOf xs l rs zs) (hs : l.Pairwise (· < ·)) : zs.Pairwise (· < ·) := by
  obtain ⟨m, rfl, _⟩ := h
  exact (nums_sorted hs).filter _

/-- How many of a list are not marked. -/
def unmarked (l : List Int) (m : Int → Bool) : Nat := (l.filter (fun x => !m x)).length

theorem unmarked_set {l : List Int} {m : Int → Bool} {p : Int} (hp : p ∈ l) (hm : m p = false) : unmarked l (setAt m p true) + 1 ≤ unmarked l m := by
  unfold unmarked
  induction l with
  | nil => cases hp
  | cons x l ih =>
    have hle : ∀ l : List Int, (l.filter (fun x => !setAt m p true x)).length ≤ (l.filter (fun x => !m x)).length := by
      intro l
      induction l with
      | nil => simp
      | cons x l ih =>
        by_cases hx : x = p
        · subst hx
          simp [List.filter_cons, setAt_same, hm]
          omega
        · simp only [List.filter_cons, setAt_other m true hx]
          split <;> (try simp only [List.length_cons]) <;> omega
    by_cases hx : x = p
    · subst hx
      simp only [List.filter_cons, setAt_same, hm]
      have := hle l
      simp
      omega
    · have := ih ((List.mem_cons.1 hp).resolve_left (fun h => hx h.symm))
      simp only [List.filter_cons, setAt_other m true hx]
      split <;> (try simp only [List.length_cons]) <;> omega

/-- What holds between two steps of a search: the marked are reachable; what is marked, and neither open nor the one at hand, refers to the marked alone. -/
structure Search (xs rs : List Int) (l : List Nat) (cur : Int) (m : Int → Bool) (st : List Int) : Prop where
  mem : ∀ q, m q = true → q ∈ nums l ∧ Reached xs rs q
  opens : ∀ q ∈ st, m q = true
  shut : ∀ (p : Nat) (q : Int), m p = true → (p : Int) ∉ st → (p : Int) ≠ cur → Refers xs p q → m q = true

theorem setAt_mono {m : Int → Bool} {q x : Int} (h : m x = true) : setAt m q true x = true := by
  by_cases h' : x = q
  · subst h'; exact setAt_same _ _ _
  · rw [setAt_other _ _ h']; exact h

theorem Search.start (xs rs : List Int) (l : List Nat) : Search xs rs l 0 (fun _ => false) [] := ⟨fun q h => (by cases h), fun q h => (by cases h), fun p q h => (by cases h)⟩

theorem Search.push {xs rs : List Int} {l : List Nat} {cur : Int} {m : Int → Bool} {st : List Int} (h : Search xs rs l cur m st) {q : Int} (hq : q ∈ nums l) (hr : Reached xs rs q) : Search xs rs l cur (setAt m q true) (st ++ [q]) := by
  refine ⟨fun x hx => ?_, fun x hx => ?_, fun p x hp hn hc hr' => ?_⟩
  · by_cases h' : x = q
    · subst h'; exact ⟨hq, hr⟩
    · rw [setAt_other _ _ h'] at hx; exact h.mem x hx
  · rcases List.mem_append.1 hx with hx | hx
    · exact setAt_mono (h.opens x hx)
    · simp at hx; subst hx; exact setAt_same _ _ _
  · simp at hn
    rw [setAt_other _ _ hn.2] at hp
    exact setAt_mono (h.shut p x hp hn.1 hc hr')

/-- An open one is taken up. -/
theorem Search.take {xs rs : List Int} {l : List Nat} {m : Int → Bool} {st : List Int} {p : Int} (h : Search xs rs l 0 m (st ++ [p])) (h1 : ∀ p ∈ l, 1 ≤ p) : Search xs rs l p m st :=
  ⟨h.mem, fun q hq => h.opens q (List.mem_append_left _ hq), fun r q hr hn hc hf => h.shut r q hr (by simp; exact ⟨hn, hc⟩) (fun e => by
    have := h1 r (mem_nums.1 (h.mem r hr).1)
    omega) hf⟩

/-- The one at hand is done. -/
theorem Search.done {xs rs : List Int} {l : List Nat} {m : Int → Bool} {st : List Int} {p : Nat} (h : Search xs rs l p m st) (hp : ∀ q, Refers xs p q → m q = true) : Search xs rs l 0 m st :=
  ⟨h.mem, h.opens, fun r q hr hn _ hf => by
    by_cases e : (r : Int) = p
    · obtain rfl : r = p := by omega
      exact hp q hf
    · exact h.shut r q hr hn e hf⟩

/-- Nothing is open: the marked are the reachable. -/
theorem Search.all {xs rs : List Int} {l : List Nat} {m : Int → Bool} (h : Search xs rs l 0 m []) (h1 : ∀ p ∈ l, 1 ≤ p) (h0 : ∀ q ∈ rs, q ≠ 0 → m q = true) (q : Int) : m q = true ↔ Reached xs rs q := by
  refine ⟨fun hq => (h.mem q hq).2, fun hq => hq.closed h0 (fun p q hp hr => h.shut p q hp (by simp) (fun e => ?_) hr)⟩
  have := h1 p (mem_nums.1 (h.mem p hp).1)
  omega

theorem unmarked_le (l : List Int) (m : Int → Bool) : unmarked l m ≤ l.length := List.length_filter_le _ _
end Go.Proofs.Ytpdcaoagpjcgbab
