/-
  Plain mathematics of a search by rounds: a list that grows by what its members refer to. It proves no statement by itself.
-/
import Derived.Test.YtpdcaoagpjcgbaaGcModel
namespace Go.Proofs.Ytpdcaoagpjcgbaa

/-- Is a number in a list? -/
def isIn (S : List Int) (x : Int) : Bool := decide (x ∈ S)
theorem isIn_iff {S : List Int} {x : Int} : isIn S x = true ↔ x ∈ S := by simp [isIn]
theorem isIn_not {S : List Int} {x : Int} : isIn S x = false ↔ x ∉ S := by simp [isIn]

theorem unmarked_sub {L : List Int} {m m' : Int → Bool} (h : ∀ x, m x = true → m' x = true) : unmarked L m' ≤ unmarked L m := by
  unfold unmarked
  induction L with
  | nil => simp
  | cons x L ih =>
    simp only [List.filter_cons]
    by_cases h1 : m' x = true
    · rw [h1]
      simp only [Bool.not_true, Bool.false_eq_true, if_false]
      split <;> (try simp only [List.length_cons]) <;> omega
    · have h2 : m x = false := by
        cases hm : m x
        · rfl
        · exact absurd (h x hm) h1
      have h3 : m' x = false := by simpa using h1
      rw [h2, h3]
      simp only [Bool.not_false, if_true, List.length_cons]
      omega
theorem unmarked_lt {L : List Int} {m m' : Int → Bool} (h : ∀ x, m x = true → m' x = true) {q : Int} (hq : q ∈ L) (h1 : m q = false) (h2 : m' q = true) : unmarked L m' + 1 ≤ unmarked L m := by
  have := unmarked_set hq h1
  have h3 : unmarked L m' ≤ unmarked L (setAt m q true) := unmarked_sub fun x hx => by
    by_cases hxq : x = q
    · rw [hxq]; exact h2
    · rw [setAt_other _ _ hxq] at hx; exact h x hx
  omega
theorem unmarked_zero {L : List Int} {m : Int → Bool} (h : unmarked L m = 0) : ∀ x ∈ L, m x = true := by
  intro x hx
  unfold unmarked at h
  have h1 := List.eq_nil_of_length_eq_zero h
  rw [List.filter_eq_nil_iff] at h1
  simpa using h1 x hx

/-- A list of what has been seen. -/
structure Seen (xs rs : List Int) (l : List Nat) (S : List Int) : Prop where
  sound : ∀ q ∈ S, q = 0 ∨ Reached xs rs q
  roots : ∀ q ∈ rs, q ∈ S
  size : S.length + unmarked (0 :: nums l) (isIn S) ≤ rs.length + l.length + 1

theorem Seen.start (xs rs : List Int) (l : List Nat) : Seen xs rs l rs := by
  refine ⟨fun q hq => ?_, fun q hq => hq, ?_⟩
  · by_cases h : q = 0
    · exact .inl h
    · exact .inr (.root hq h)
  · have := unmarked_le (0 :: nums l) (isIn rs)
    rw [List.length_cons, nums_length] at this
    omega

theorem Seen.push {xs rs : List Int} {l : List Nat} {S : List Int} (h : Seen xs rs l S) {q : Int} (hq : q ∉ S) (hr : q = 0 ∨ (q ∈ nums l ∧ Reached xs rs q)) : Seen xs rs l (S ++ [q]) := by
  refine ⟨fun x hx => ?_, fun x hx => List.mem_append_left _ (h.roots x hx), ?_⟩
  · rcases List.mem_append.1 hx with hx | hx
    · exact h.sound x hx
    · simp at hx
      subst hx
      exact hr.imp id (fun h => h.2)
  · have h1 : unmarked (0 :: nums l) (isIn (S ++ [q])) + 1 ≤ unmarked (0 :: nums l) (isIn S) :=
      unmarked_lt (fun x hx => isIn_iff.2 (List.mem_append_left _ (isIn_iff.1 hx))) (q := q) (hr.elim (fun h => by rw [h]; simp) (fun h => List.mem_cons_of_mem _ h.1)) (isIn_not.2 hq) (isIn_iff.2 (by simp))
    have := h.size
    rw [List.length_append, List.length_singleton]
    omega

theorem Seen.length {xs rs : List Int} {l : List Nat} {S : List Int} (h : Seen xs rs l S) : S.length ≤ rs.length + l.length + 1 := by
  have := h.size
  omega

/-- All that is reachable has been seen, or so many objects at least. -/
def Prog (xs rs : List Int) (l : List Nat) (S : List Int) (r : Nat) : Prop := (∀ q, Reached xs rs q → q ∈ S) ∨ unmarked (nums l) (isIn S) + r ≤ l.length

theorem Prog.start (xs rs : List Int) (l : List Nat) (S : List Int) : Prog xs rs l S 0 := by
  right
  have := unmarked_le (nums l) (isIn S)
  rw [nums_length] at this
  omega

theorem Prog.step {xs rs : List Int} {l : List Nat} {S S' : List Int} {r : Nat} (h : Prog xs rs l S r) (hs : Seen xs rs l S') (hz : ∀ p ∈ l, 1 ≤ p) (hm : ∀ q, Reached xs rs q → q ∈ nums l) (hsub : ∀ q ∈ S, q ∈ S') (hround : ∀ p ∈ l, (p : Int) ∈ S → ∀ q, Refers xs p q → q ∈ S') : Prog xs rs l S' (r + 1) := by
  rcases h with h | h
  · exact .inl fun q hq => hsub q (h q hq)
  · have mono : ∀ x, isIn S x = true → isIn S' x = true := fun x hx => isIn_iff.2 (hsub x (isIn_iff.1 hx))
    by_cases hnew : ∃ q ∈ nums l, q ∉ S ∧ q ∈ S'
    · obtain ⟨q, h1, h2, h3⟩ := hnew
      have := unmarked_lt mono h1 (isIn_not.2 h2) (isIn_iff.2 h3)
      right
      omega
    · left
      intro q hq
      have hc : (fun x => decide (x ∈ S' ∧ x ∈ nums l)) q = true := by
        refine Reached.closed (m := fun x => decide (x ∈ S' ∧ x ∈ nums l)) (fun q hq h0 => ?_) (fun p q hp hr => ?_) hq
        · exact decide_eq_true ⟨hs.roots q hq, hm q (.root hq h0)⟩
        · obtain ⟨h1, h2⟩ := of_decide_eq_true hp
          have hpl := mem_nums.1 h2
          have hpS : (p : Int) ∈ S := Classical.byContradiction fun h3 => hnew ⟨p, h2, h3, h1⟩
          have hpr : Reached xs rs p := (hs.sound _ h1).resolve_left (by have := hz p hpl; omega)
          exact decide_eq_true ⟨hround p hpl hpS q hr, hm q (.step hpr hr)⟩
      exact (of_decide_eq_true hc).1

/-- After as many rounds as there are objects all that is reachable has been seen. -/
theorem Prog.all {xs rs : List Int} {l : List Nat} {S : List Int} (h : Prog xs rs l S l.length) (hm : ∀ q, Reached xs rs q → q ∈ nums l) {q : Int} (hq : Reached xs rs q) : q ∈ S := by
  rcases h with h | h
  · exact h q hq
  · exact isIn_iff.1 (unmarked_zero (by omega) q (hm q hq))
end Go.Proofs.Ytpdcaoagpjcgbaa
