/-
  Plain mathematics of compaction: where the kept objects go, and what the words are then. It proves no statement by itself.
-/
import Derived.Test.YtpdcaoagpjcgbabGcModel
import Derived.Test.YtpdcaoagpjcgbabModel2
set_option linter.unusedVariables false
set_option linter.unusedSimpArgs false
namespace Go.Proofs.Ytpdcaoagpjcgbab

/-- Addresses of a list, each behind the one before. -/
def InOrder (zs ks : List Int) : Prop := ∀ i, i < ks.length → ks.getD i 0 ∈ zs ∧ (0 < i → ks.getD (i - 1) 0 < ks.getD i 0)

/-- How many fields the object at p has. -/
def lenAt (xs : List Int) (p : Nat) : Nat := (xs.getD (p + 1) 0).toNat
/-- How many words objects take. -/
def wordsOf (xs : List Int) : List Nat → Nat
  | [] => 0
  | p :: ps => 2 + lenAt xs p + wordsOf xs ps
theorem wordsOf_append (xs : List Int) (ps qs : List Nat) : wordsOf xs (ps ++ qs) = wordsOf xs ps + wordsOf xs qs := by
  induction ps with
  | nil => simp [wordsOf]
  | cons p ps ih => simp only [List.cons_append, wordsOf, ih]; omega
/-- Where the j-th of the kept objects goes. -/
def toAt (xs : List Int) (qs : List Nat) (j : Nat) : Nat := 1 + wordsOf xs (qs.take j)
theorem toAt_zero (xs : List Int) (qs : List Nat) : toAt xs qs 0 = 1 := by simp [toAt, wordsOf]
theorem take_snoc_nat {qs : List Nat} {j : Nat} (hj : j < qs.length) : qs.take (j + 1) = qs.take j ++ [qs.getD j 0] := by
  rw [List.take_succ_eq_append_getElem hj]
  simp [List.getD_eq_getElem?_getD, List.getElem?_eq_getElem hj]
theorem toAt_succ {xs : List Int} {qs : List Nat} {j : Nat} (hj : j < qs.length) : toAt xs qs (j + 1) = toAt xs qs j + (2 + lenAt xs (qs.getD j 0)) := by
  unfold toAt
  rw [take_snoc_nat hj, wordsOf_append]
  simp only [wordsOf]
  omega

/-- Kept objects: some of the objects of a heap, in order. -/
structure Kept (l qs : List Nat) : Prop where
  sub : ∀ q ∈ qs, q ∈ l
  sorted : qs.Pairwise (· < ·)

theorem getD_mem {qs : List Nat} {j : Nat} (hj : j < qs.length) : qs.getD j 0 ∈ qs := by
  simp [List.getD_eq_getElem?_getD, List.getElem?_eq_getElem hj]

theorem chain_lt {ks : List Int} (h : ∀ i, i < ks.length → 0 < i → ks.getD (i - 1) 0 < ks.getD i 0) : ∀ (d i : Nat), i + d + 1 < ks.length → ks.getD i 0 < ks.getD (i + d + 1) 0
  | 0, i, hi => h (i + 1) hi (by omega)
  | d + 1, i, hi => by
    have h1 := chain_lt h d i (by omega)
    have h2 := h (i + (d + 1) + 1) hi (by omega)
    rw [show i + (d + 1) + 1 - 1 = i + d + 1 by omega] at h2
    omega

/-- A list of addresses in order is a list of kept objects. -/
theorem InOrder.kept {l : List Nat} {ks : List Int} (h : InOrder (nums l) ks) : ∃ qs, ks = nums qs ∧ Kept l qs := by
  have hmem : ∀ x ∈ ks, x ∈ nums l := fun x hx => by
    obtain ⟨i, hi, rfl⟩ := mem_at.1 hx
    exact (h i hi).1
  have hpos : ∀ x ∈ ks, ((x.toNat : Nat) : Int) = x := fun x hx => by
    have := hmem x hx
    simp [nums] at this
    obtain ⟨p, _, rfl⟩ := this
    simp
  have hk : ks = nums (ks.map Int.toNat) := by
    unfold nums
    rw [List.map_map]
    symm
    exact (List.map_congr_left (g := id) (fun x hx => hpos x hx)).trans (List.map_id ks)
  have hpw : ks.Pairwise (· < ·) := by
    rw [List.pairwise_iff_getElem]
    intro i j hi hj hij
    have := chain_lt (ks := ks) (fun i hi h0 => (h i hi).2 h0) (j - i - 1) i (by omega)
    rw [show i + (j - i - 1) + 1 = j by omega] at this
    simpa [List.getD_eq_getElem?_getD, List.getElem?_eq_getElem hi, List.getElem?_eq_getElem hj] using this
  refine ⟨ks.map Int.toNat, hk, ⟨fun q hq => ?_, ?_⟩⟩
  · obtain ⟨x, hx, rfl⟩ := List.mem_map.1 hq
    have := hmem x hx
    rw [← hpos x hx] at this
    exact mem_nums.1 this
  · have h2 := hpw
    rw [hk] at h2
    unfold nums at h2
    rw [List.pairwise_map] at h2
    exact h2.imp (fun h => by omega)

theorem Kept.inOrder {l qs : List Nat} (h : Kept l qs) : InOrder (nums l) (nums qs) := by
  intro i hi
  rw [nums_length] at hi
  rw [nums_getD, nums_getD]
  refine ⟨mem_nums.2 (h.sub _ (getD_mem hi)), fun h0 => ?_⟩
  have := sorted_at (nums_sorted h.sorted) (i := i - 1) (j := i) (by omega) (by rw [nums_length]; exact hi)
  rw [nums_getD, nums_getD] at this
  exact this

/-- Objects do not overlap. -/
theorem objs_gap {xs : List Int} {top : Nat} {l : List Nat} (h : Lw.objs xs top 1 = some l) : ∀ a ∈ l, ∀ b ∈ l, a < b → a + 2 + lenAt xs a ≤ b := by
  intro a ha b hb hab
  have h1 := Lw.objs_apart top 1 l (by omega) h
  obtain ⟨i, hi, rfl⟩ := List.mem_iff_getElem.1 ha
  obtain ⟨j, hj, rfl⟩ := List.mem_iff_getElem.1 hb
  rcases Nat.lt_trichotomy i j with hij | hij | hij
  · exact List.pairwise_iff_getElem.1 h1 i j hi hj hij
  · subst hij; omega
  · have := List.pairwise_iff_getElem.1 h1 j i hj hi hij
    unfold Lw.nextOf at this
    omega

open Lw in
/-- What is known of kept objects of a valid heap. -/
structure Room (xs : List Int) (t : Nat) (l qs : List Nat) : Prop where
  kept : Kept l qs
  laid : Laid xs t l
  apart : ∀ a ∈ l, ∀ b ∈ l, a < b → a + 2 + lenAt xs a ≤ b

open Lw in
theorem Room.of {xs : List Int} {t : Nat} {l qs : List Nat} (ho : Objects xs t l) (hk : Kept l qs) : Room xs t l qs := ⟨hk, Objects.laid ho, objs_gap ho.1⟩

theorem Room.fit {xs : List Int} {t : Nat} {l qs : List Nat} (h : Room xs t l qs) {q : Nat} (hq : q ∈ qs) : 1 ≤ q ∧ q + 2 + lenAt xs q ≤ t ∧ lenAt xs q ≤ 6 ∧ xs.getD (q + 1) 0 = (lenAt xs q : Int) := by
  obtain ⟨h1, f1, f2, f3, f4⟩ := h.laid.fit q (h.kept.sub q hq)
  unfold lenAt
  exact ⟨h1, f4, by omega, by omega⟩

theorem Room.le {xs : List Int} {t : Nat} {l qs : List Nat} (h : Room xs t l qs) : ∀ j, j < qs.length → toAt xs qs j ≤ qs.getD j 0
  | 0, hj => by
    rw [toAt_zero]
    exact (h.fit (getD_mem hj)).1
  | j + 1, hj => by
    have ih := h.le j (by omega)
    rw [toAt_succ (by omega)]
    have hlt : qs.getD j 0 < qs.getD (j + 1) 0 := by
      have := sorted_at (nums_sorted h.kept.sorted) (i := j) (j := j + 1) (by omega) (by rw [nums_length]; exact hj)
      rw [nums_getD, nums_getD] at this
      omega
    have := h.apart _ (h.kept.sub _ (getD_mem (j := j) (by omega))) _ (h.kept.sub _ (getD_mem hj)) hlt
    omega

theorem Room.end_le {xs : List Int} {t : Nat} {l qs : List Nat} (h : Room xs t l qs) (h1 : 1 ≤ t) : ∀ j, j ≤ qs.length → toAt xs qs j ≤ t
  | 0, _ => by rw [toAt_zero]; exact h1
  | j + 1, hj => by
    rw [toAt_succ (by omega)]
    have := h.le j (by omega)
    have := (h.fit (getD_mem (j := j) (by omega))).2.1
    omega

/-- The moves: each kept object's old and new address. -/
def planOf (xs : List Int) (qs : List Nat) (j : Nat) : List (Nat × Nat) := (List.range j).map fun i => (qs.getD i 0, toAt xs qs i)
theorem planOf_length (xs : List Int) (qs : List Nat) (j : Nat) : (planOf xs qs j).length = j := by simp [planOf]
theorem planOf_succ (xs : List Int) (qs : List Nat) (j : Nat) : planOf xs qs (j + 1) = planOf xs qs j ++ [(qs.getD j 0, toAt xs qs j)] := by simp [planOf, List.range_succ]

theorem nums_append (a b : List Nat) : nums (a ++ b) = nums a ++ nums b := by simp [nums]

/-- What is known of the table of new addresses of the first j kept objects. -/
structure Dest (xs : List Int) (qs : List Nat) (j : Nat) (m : Int → Option Int) : Prop where
  zero : m 0 = some 0
  new : ∀ i, i < j → m ((qs.getD i 0 : Nat) : Int) = some ((toAt xs qs i : Nat) : Int)
  other : ∀ x, x ≠ 0 → x ∉ nums (qs.take j) → m x = none

theorem Dest.start (xs : List Int) (qs : List Nat) : Dest xs qs 0 (setAt (fun _ => none) 0 (some 0)) :=
  ⟨setAt_same _ _ _, fun i hi => absurd hi (Nat.not_lt_zero _), fun x hx _ => by rw [setAt_other _ _ hx]⟩

theorem Dest.step {xs : List Int} {qs : List Nat} {j : Nat} {m : Int → Option Int} (h : Dest xs qs j m) (hj : j < qs.length) (hs : qs.Pairwise (· < ·)) (h0 : qs.getD j 0 ≠ 0) :
    Dest xs qs (j + 1) (setAt m ((qs.getD j 0 : Nat) : Int) (some ((toAt xs qs j : Nat) : Int))) := by
  refine ⟨?_, fun i hi => ?_, fun x hx hn => ?_⟩
  · rw [setAt_other _ _ (by omega)]; exact h.zero
  · rcases Nat.lt_or_ge i j with h' | h'
    · have := sorted_at (nums_sorted hs) (i := i) (j := j) h' (by rw [nums_length]; exact hj)
      rw [nums_getD, nums_getD] at this
      rw [setAt_other _ _ (by omega)]
      exact h.new i h'
    · obtain rfl : i = j := by omega
      exact setAt_same _ _ _
  · rw [take_snoc_nat hj, nums_append] at hn
    have hn1 : x ∉ nums (qs.take j) := fun hm => hn (List.mem_append_left _ hm)
    have hn2 : x ≠ ((qs.getD j 0 : Nat) : Int) := fun hm => hn (List.mem_append_right _ (by simp [nums, hm]))
    rw [setAt_other _ _ hn2]
    exact h.other x hx hn1

theorem Dest.unique {xs : List Int} {qs : List Nat} {m m' : Int → Option Int} (h : Dest xs qs qs.length m) (h' : Dest xs qs qs.length m') : m = m' := by
  funext x
  by_cases hx : x = 0
  · subst hx; rw [h.zero, h'.zero]
  · by_cases hm : x ∈ nums qs
    · obtain ⟨i, hi, rfl⟩ := mem_at.1 hm
      rw [nums_length] at hi
      rw [nums_getD, h.new i hi, h'.new i hi]
    · have e : nums (qs.take qs.length) = nums qs := by rw [List.take_length]
      rw [h.other x hx (by rw [e]; exact hm), h'.other x hx (by rw [e]; exact hm)]

theorem Dest.has {xs : List Int} {qs : List Nat} {m : Int → Option Int} (h : Dest xs qs qs.length m) {x : Int} : (m x).isSome = true ↔ x = 0 ∨ x ∈ nums qs := by
  constructor
  · intro hs
    by_cases hx : x = 0
    · exact .inl hx
    · refine .inr (Classical.byContradiction fun hn => ?_)
      rw [h.other x hx (by rw [List.take_length]; exact hn)] at hs
      cases hs
  · rintro (rfl | hm)
    · rw [h.zero]; rfl
    · obtain ⟨i, hi, rfl⟩ := mem_at.1 hm
      rw [nums_length] at hi
      rw [nums_getD, h.new i hi]; rfl

/-- All that the kept objects refer to is kept. -/
def Closed (xs : List Int) (qs : List Nat) (j : Nat) : Prop := ∀ i, i < j → ∀ q, Refers xs (qs.getD i 0) q → q ∈ nums qs

/-- A word, its reference led to where its object goes. -/
def redir (m : Int → Option Int) (y : Int) : Int := if y % 2 = 1 then 2 * ((m (y / 2)).getD 0) + 1 else y

/-- The words of an object that has moved. -/
def objWords (xs : List Int) (m : Int → Option Int) (p : Nat) : List Int := xs.getD p 0 :: xs.getD (p + 1) 0 :: (fieldsAt xs p (lenAt xs p)).map (redir m)
/-- The words in front, up to the j-th object. -/
def front (xs : List Int) (m : Int → Option Int) (qs : List Nat) (j : Nat) : List Int := 0 :: (qs.take j).flatMap (objWords xs m)
/-- The words of a heap of n words behind j moves. -/
def built (n : Nat) (xs : List Int) (m : Int → Option Int) (qs : List Nat) (j : Nat) : List Int := front xs m qs j ++ List.replicate (n - (front xs m qs j).length) 0

theorem objWords_length {xs : List Int} {m : Int → Option Int} {p : Nat} (h : p + 2 + lenAt xs p ≤ xs.length) : (objWords xs m p).length = 2 + lenAt xs p := by
  unfold objWords
  simp [fieldsAt_length h]
  omega

theorem front_zero (xs : List Int) (m : Int → Option Int) (qs : List Nat) : front xs m qs 0 = [0] := by simp [front]
theorem front_succ {xs : List Int} {m : Int → Option Int} {qs : List Nat} {j : Nat} (hj : j < qs.length) : front xs m qs (j + 1) = front xs m qs j ++ objWords xs m (qs.getD j 0) := by
  unfold front
  rw [take_snoc_nat hj]
  simp

theorem Room.front_length {xs : List Int} {t : Nat} {l qs : List Nat} (h : Room xs t l qs) (ht : t ≤ xs.length) (m : Int → Option Int) : ∀ j, j ≤ qs.length → (front xs m qs j).length = toAt xs qs j
  | 0, _ => by rw [front_zero, toAt_zero]; rfl
  | j + 1, hj => by
    rw [front_succ (by omega), List.length_append, h.front_length ht m j (by omega), toAt_succ (by omega), objWords_length]
    have := (h.fit (getD_mem (j := j) (by omega))).2.1
    omega

theorem Room.built_length {xs : List Int} {t : Nat} {l qs : List Nat} (h : Room xs t l qs) (h1 : 1 ≤ t) (ht : t ≤ xs.length) {n : Nat} (hn : xs.length = n) (m : Int → Option Int) {j : Nat} (hj : j ≤ qs.length) : (built n xs m qs j).length = n := by
  unfold built
  have h2 := h.front_length ht m j hj
  have h3 := h.end_le h1 j hj
  rw [List.length_append, List.length_replicate, h2]
  omega

theorem built_zero (n : Nat) (xs : List Int) (m : Int → Option Int) (qs : List Nat) (hn : 1 ≤ n) : built n xs m qs 0 = List.replicate n 0 := by
  unfold built
  rw [front_zero]
  obtain ⟨k, rfl⟩ : ∃ k, n = k + 1 := ⟨n - 1, by omega⟩
  simp [List.replicate_succ]
end Go.Proofs.Ytpdcaoagpjcgbab
