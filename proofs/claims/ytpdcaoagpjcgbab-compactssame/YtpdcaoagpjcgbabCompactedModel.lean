/-
  Plain mathematics of compaction: the compacted words are a valid heap, whose compaction is the heap itself. It proves no statement by itself.
-/
import Derived.Test.YtpdcaoagpjcgbabMoveModel
set_option linter.unusedVariables false
set_option linter.unusedSimpArgs false
namespace Go.Proofs.Ytpdcaoagpjcgbab

/-- The new addresses. -/
def destOf (xs : List Int) (qs : List Nat) : List Nat := (List.range qs.length).map (toAt xs qs)
theorem destOf_length (xs : List Int) (qs : List Nat) : (destOf xs qs).length = qs.length := by simp [destOf]
theorem destOf_getD {xs : List Int} {qs : List Nat} {i : Nat} (hi : i < qs.length) : (destOf xs qs).getD i 0 = toAt xs qs i := by
  simp [destOf, List.getD_eq_getElem?_getD, hi]
theorem mem_destOf {xs : List Int} {qs : List Nat} {d : Nat} : d ∈ destOf xs qs ↔ ∃ i, i < qs.length ∧ d = toAt xs qs i := by
  simp only [destOf, List.mem_map, List.mem_range]
  constructor
  · rintro ⟨i, hi, rfl⟩; exact ⟨i, hi, rfl⟩
  · rintro ⟨i, hi, rfl⟩; exact ⟨i, hi, rfl⟩

theorem front_prefix (xs : List Int) (m : Int → Option Int) (qs : List Nat) (i : Nat) : ∀ d, i + d ≤ qs.length → ∃ r, front xs m qs (i + d) = front xs m qs i ++ r
  | 0, _ => ⟨[], by simp⟩
  | d + 1, h => by
    obtain ⟨r, hr⟩ := front_prefix xs m qs i d (by omega)
    refine ⟨r ++ objWords xs m (qs.getD (i + d) 0), ?_⟩
    rw [← Nat.add_assoc, front_succ (by omega), hr, List.append_assoc]

theorem getD_append_right' {a b : List Int} {n i : Nat} (h : a.length = n) : (a ++ b).getD (n + i) 0 = b.getD i 0 := by
  subst h
  simp [List.getD_eq_getElem?_getD, List.getElem?_append_right]
theorem getD_append_left' {a b : List Int} {i : Nat} (h : i < a.length) : (a ++ b).getD i 0 = a.getD i 0 := by
  simp [List.getD_eq_getElem?_getD, List.getElem?_append_left h]

theorem third_map (x y : Int) (g : Int → Int) {fs : List Int} {k : Nat} (h : k < fs.length) : (x :: y :: fs.map g).getD (k + 2) 0 = g (fs.getD k 0) := by
  simp [List.getD_eq_getElem?_getD, List.getElem?_eq_getElem h]

theorem getD_elem {fs : List Int} {k : Nat} (h : k < fs.length) : fs.getD k 0 = fs[k] := by simp [List.getD_eq_getElem?_getD, List.getElem?_eq_getElem h]

/-- The words of the i-th object behind the move. -/
theorem Room.built_at {xs : List Int} {t : Nat} {l qs : List Nat} (h : Room xs t l qs) (ht : t ≤ xs.length) (n : Nat) (m : Int → Option Int) {i s : Nat} (hi : i < qs.length) (hs : s < 2 + lenAt xs (qs.getD i 0)) :
    (built n xs m qs qs.length).getD (toAt xs qs i + s) 0 = (objWords xs m (qs.getD i 0)).getD s 0 := by
  obtain ⟨r, hr⟩ := front_prefix xs m qs (i + 1) (qs.length - (i + 1)) (by omega)
  rw [show i + 1 + (qs.length - (i + 1)) = qs.length by omega, front_succ hi] at hr
  unfold built
  have hl := objWords_length (xs := xs) (m := m) (p := qs.getD i 0) (by have := (h.fit (getD_mem hi)).2.1; omega)
  rw [hr, List.append_assoc, List.append_assoc, getD_append_right' (h.front_length ht m i (by omega)), getD_append_left' (by rw [hl]; exact hs)]

theorem Room.built_state {xs : List Int} {t : Nat} {l qs : List Nat} (h : Room xs t l qs) (ht : t ≤ xs.length) (n : Nat) (m : Int → Option Int) {i : Nat} (hi : i < qs.length) : (built n xs m qs qs.length).getD (toAt xs qs i) 0 = xs.getD (qs.getD i 0) 0 :=
  h.built_at ht n m hi (s := 0) (by omega)
theorem Room.built_len {xs : List Int} {t : Nat} {l qs : List Nat} (h : Room xs t l qs) (ht : t ≤ xs.length) (n : Nat) (m : Int → Option Int) {i : Nat} (hi : i < qs.length) : (built n xs m qs qs.length).getD (toAt xs qs i + 1) 0 = xs.getD (qs.getD i 0 + 1) 0 :=
  h.built_at ht n m hi (s := 1) (by omega)
theorem Room.built_field {xs : List Int} {t : Nat} {l qs : List Nat} (h : Room xs t l qs) (ht : t ≤ xs.length) (n : Nat) (m : Int → Option Int) {i k : Nat} (hi : i < qs.length) (hk : k < lenAt xs (qs.getD i 0)) :
    (built n xs m qs qs.length).getD (toAt xs qs i + 2 + k) 0 = redir m (xs.getD (qs.getD i 0 + 2 + k) 0) := by
  have := h.built_at ht n m hi (s := k + 2) (by omega)
  rw [show toAt xs qs i + (k + 2) = toAt xs qs i + 2 + k by omega] at this
  rw [this]
  unfold objWords
  have hl := fieldsAt_length (xs := xs) (p := qs.getD i 0) (f := lenAt xs (qs.getD i 0)) (by have := (h.fit (getD_mem hi)).2.1; omega)
  have h2 := fieldsAt_getD (xs := xs) (p := qs.getD i 0) (f := lenAt xs (qs.getD i 0)) hk
  rw [← h2]
  exact third_map _ _ _ (by omega)

theorem Room.built_rest {xs : List Int} {t : Nat} {l qs : List Nat} (h : Room xs t l qs) (ht : t ≤ xs.length) (n : Nat) (m : Int → Option Int) {k : Nat} (hk : toAt xs qs qs.length ≤ k) : (built n xs m qs qs.length).getD k 0 = 0 := by
  unfold built
  obtain ⟨d, rfl⟩ : ∃ d, k = toAt xs qs qs.length + d := ⟨k - toAt xs qs qs.length, by omega⟩
  rw [getD_append_right' (h.front_length ht m qs.length (Nat.le_refl _))]
  simp only [List.getD_eq_getElem?_getD, List.getElem?_replicate]
  split <;> rfl

theorem Room.lenAt_built {xs : List Int} {t : Nat} {l qs : List Nat} (h : Room xs t l qs) (ht : t ≤ xs.length) (n : Nat) (m : Int → Option Int) {i : Nat} (hi : i < qs.length) : lenAt (built n xs m qs qs.length) (toAt xs qs i) = lenAt xs (qs.getD i 0) := by
  unfold lenAt
  rw [h.built_len ht n m hi]

theorem Room.toAt_built {xs : List Int} {t : Nat} {l qs : List Nat} (h : Room xs t l qs) (ht : t ≤ xs.length) (n : Nat) (m : Int → Option Int) : ∀ j, j ≤ qs.length → toAt (built n xs m qs qs.length) (destOf xs qs) j = toAt xs qs j
  | 0, _ => by rw [toAt_zero, toAt_zero]
  | j + 1, hj => by
    rw [toAt_succ (by rw [destOf_length]; omega), toAt_succ (by omega), h.toAt_built ht n m j (by omega), destOf_getD (by omega), h.lenAt_built ht n m (by omega)]

/-- The new addresses lie one behind the other. -/
theorem toAt_lt {xs : List Int} {qs : List Nat} {i : Nat} : ∀ d, i + d + 1 ≤ qs.length → toAt xs qs i < toAt xs qs (i + d + 1)
  | 0, h => by rw [Nat.add_zero, toAt_succ (by omega)]; omega
  | d + 1, h => by
    have := toAt_lt (xs := xs) (qs := qs) (i := i) d (by omega)
    rw [show i + (d + 1) + 1 = (i + d + 1) + 1 by omega, toAt_succ (by omega)]
    omega

open Lw in
theorem Room.objs_built {xs : List Int} {t : Nat} {l qs : List Nat} (h : Room xs t l qs) (ht : t ≤ xs.length) (n : Nat) (m : Int → Option Int) : ∀ d i, i + d = qs.length → objs (built n xs m qs qs.length) (toAt xs qs qs.length) (toAt xs qs i) = some ((destOf xs qs).drop i)
  | 0, i, hi => by
    obtain rfl : i = qs.length := by omega
    rw [objs_end (Nat.le_refl _), List.drop_eq_nil_of_le (by rw [destOf_length]; omega)]
  | d + 1, i, hi => by
    have hi' : i < qs.length := by omega
    have h1 := toAt_lt (xs := xs) (qs := qs) (i := i) d (by omega)
    rw [show i + d + 1 = qs.length by omega] at h1
    have h2 := toAt_succ (xs := xs) hi'
    have h3 : toAt xs qs (i + 1) ≤ toAt xs qs qs.length := by
      rcases Nat.lt_or_ge (i + 1) qs.length with h' | h'
      · have := toAt_lt (xs := xs) (qs := qs) (i := i + 1) (qs.length - (i + 1) - 1) (by omega)
        rw [show i + 1 + (qs.length - (i + 1) - 1) + 1 = qs.length by omega] at this
        omega
      · rw [show i + 1 = qs.length by omega]; exact Nat.le_refl _
    have hb := h.built_len ht n m hi'
    obtain ⟨f1, f2, f3, f4⟩ := h.fit (getD_mem hi')
    have hfit : Fit (built n xs m qs qs.length) (toAt xs qs qs.length) (toAt xs qs i) := by
      refine ⟨by omega, ?_, ?_, ?_⟩ <;> rw [hb, f4] <;> omega
    have hn : nextOf (built n xs m qs qs.length) (toAt xs qs i) = toAt xs qs (i + 1) := by
      unfold nextOf
      rw [hb, f4]
      omega
    rw [objs_step h1 hfit, hn, h.objs_built ht n m d (i + 1) (by omega)]
    rw [List.drop_eq_getElem_cons (show i < (destOf xs qs).length by rw [destOf_length]; exact hi')]
    have := destOf_getD (xs := xs) hi'
    simp [List.getD_eq_getElem?_getD, List.getElem?_eq_getElem (show i < (destOf xs qs).length by rw [destOf_length]; exact hi')] at this
    simp [this]

/-- What a redirected field is. -/
theorem redir_cases {xs : List Int} {qs : List Nat} {m : Int → Option Int} (hd : Dest xs qs qs.length m) (hc : Closed xs qs qs.length) {i k : Nat} (hi : i < qs.length) (hk : (k : Int) < xs.getD (qs.getD i 0 + 1) 0) (y : Int) (hy : xs.getD (qs.getD i 0 + 2 + k) 0 = y) :
    (y % 2 = 0 ∧ redir m y = y) ∨ (y % 2 = 1 ∧ redir m y = 1) ∨ (y % 2 = 1 ∧ ∃ j, j < qs.length ∧ redir m y = 2 * ((toAt xs qs j : Nat) : Int) + 1) := by
  rcases Int.emod_two_eq y with h | h
  · left; exact ⟨h, by unfold redir; rw [if_neg (by omega)]⟩
  · right
    by_cases h0 : y / 2 = 0
    · left; refine ⟨h, ?_⟩
      unfold redir
      rw [if_pos h, h0, hd.zero]
      rfl
    · right; refine ⟨h, ?_⟩
      have hm := hc i hi (y / 2) ⟨k, hk, by rw [hy]; exact h, by rw [hy], h0⟩
      obtain ⟨j, hj, he⟩ := mem_at.1 hm
      rw [nums_length] at hj
      rw [nums_getD] at he
      refine ⟨j, hj, ?_⟩
      unfold redir
      rw [if_pos h, ← he, hd.new j hj]
      rfl

open Lw in
/-- The compacted words are a valid heap. -/
theorem valid_built {xs : List Int} {top : Int} {l qs : List Nat} (hv : Valid xs top l) (hk : Kept l qs) {m : Int → Option Int} (hd : Dest xs qs qs.length m) (hc : Closed xs qs qs.length) {n : Nat} (hn : xs.length = n) :
    Valid (built n xs m qs qs.length) ((toAt xs qs qs.length : Nat) : Int) (destOf xs qs) := by
  have h := Room.of hv.objects hk
  have v1 := hv.top1
  have v2 := hv.top2
  have v3 := hv.len1
  have v4 := hv.len2
  have ht : top.toNat ≤ xs.length := by omega
  have ht1 : 1 ≤ top.toNat := by omega
  have hbl := h.built_length ht1 ht hn m (Nat.le_refl qs.length)
  have hend := h.end_le ht1 qs.length (Nat.le_refl _)
  have h1 : 1 ≤ toAt xs qs qs.length := by unfold toAt; omega
  refine ⟨by omega, by omega, by omega, by omega, ⟨?_, fun d hdm => ?_⟩, fun d hdm k hkk => ?_, fun k hk1 _ => ?_⟩
  · have := h.objs_built ht n m qs.length 0 (by omega)
    rw [toAt_zero, List.drop_zero] at this
    rw [Int.toNat_natCast]
    exact this
  · obtain ⟨i, hi, rfl⟩ := mem_destOf.1 hdm
    unfold StOk
    rw [h.built_state ht n m hi]
    exact hv.objects.2 _ (hk.sub _ (getD_mem hi))
  · obtain ⟨i, hi, rfl⟩ := mem_destOf.1 hdm
    rw [h.built_len ht n m hi] at hkk
    have hkl : k < lenAt xs (qs.getD i 0) := by
      have := (h.fit (getD_mem hi)).2.2.2
      omega
    rw [h.built_field ht n m hi hkl]
    have hold := hv.fields _ (hk.sub _ (getD_mem hi)) k hkk
    rcases redir_cases hd hc hi hkk _ rfl with ⟨h2, h3⟩ | ⟨h2, h3⟩ | ⟨h2, j, hj, h3⟩
    · rw [h3]
      exact ⟨fun h4 => by omega, hold.2⟩
    · rw [h3]
      exact ⟨fun _ => .inl rfl, fun h4 => by omega⟩
    · rw [h3]
      exact ⟨fun _ => .inr ⟨toAt xs qs j, mem_destOf.2 ⟨j, hj, rfl⟩, by omega⟩, fun h4 => by omega⟩
  · rw [Int.toNat_natCast] at hk1
    exact h.built_rest ht n m hk1

theorem built_fits {xs : List Int} {t : Nat} {l qs : List Nat} {m : Int → Option Int} (hd : Dest xs qs qs.length m) (h : Room xs t l qs) (h1 : 1 ≤ t) (ht : t ≤ 400) (hf : ∀ x ∈ xs, Fits x) (n : Nat) : ∀ x ∈ built n xs m qs qs.length, Fits x := by
  have hz : Fits 0 := fits_small (by omega) (by omega)
  have hg : ∀ i, Fits (xs.getD i 0) := fun i => by
    rcases Nat.lt_or_ge i xs.length with h' | h'
    · rw [getD_elem h']; exact hf _ (List.getElem_mem h')
    · simp [List.getD_eq_getElem?_getD, List.getElem?_eq_none h']; exact hz
  intro x hx
  unfold built front at hx
  rcases List.mem_append.1 hx with hx | hx
  · rcases List.mem_cons.1 hx with rfl | hx
    · exact hz
    · obtain ⟨p, _, hx⟩ := List.mem_flatMap.1 hx
      unfold objWords at hx
      rcases List.mem_cons.1 hx with rfl | hx
      · exact hg _
      · rcases List.mem_cons.1 hx with rfl | hx
        · exact hg _
        · obtain ⟨y, hy, rfl⟩ := List.mem_map.1 hx
          unfold redir
          split
          · rcases he : m (y / 2) with _ | v
            · exact fits_small (by simp) (by simp)
            · have := hd.small h h1 ht _ _ he
              simp only [Option.getD_some]
              exact fits_small (by omega) (by omega)
          · unfold fieldsAt at hy
            exact hf _ (List.mem_of_mem_drop (List.mem_of_mem_take hy))
  · rw [List.eq_of_mem_replicate hx]; exact hz

open Lw in
/-- The compacted heap's compaction is itself. -/
theorem valid_again {xs : List Int} {top : Int} {l qs : List Nat} (hv : Valid xs top l) (hk : Kept l qs) {m : Int → Option Int} (hd : Dest xs qs qs.length m) (hc : Closed xs qs qs.length) {n : Nat} (hn : xs.length = n) {m2 : Int → Option Int} (hd2 : Dest (built n xs m qs qs.length) (destOf xs qs) (destOf xs qs).length m2) :
    built n (built n xs m qs qs.length) m2 (destOf xs qs) (destOf xs qs).length = built n xs m qs qs.length := by
  have h := Room.of hv.objects hk
  have v1 := hv.top1
  have v2 := hv.top2
  have ht : top.toNat ≤ xs.length := by omega
  have ht1 : 1 ≤ top.toNat := by omega
  have hbl := h.built_length ht1 ht hn m (Nat.le_refl qs.length)
  have hend := h.end_le ht1 qs.length (Nat.le_refl _)
  obtain ⟨ys, hys⟩ : ∃ ys, built n xs m qs qs.length = ys := ⟨_, rfl⟩
  have hobj : ∀ i, i < qs.length → objWords ys m2 (toAt xs qs i) = objWords xs m (qs.getD i 0) := by
    intro i hi
    obtain ⟨f1, f2, f3, f4⟩ := h.fit (getD_mem hi)
    have e0 := h.built_state ht n m hi
    have e1 := h.built_len ht n m hi
    have e2 := h.lenAt_built ht n m hi
    rw [hys] at e0 e1 e2
    unfold objWords
    rw [e0, e1, e2]
    have hspan : toAt xs qs i + 2 + lenAt xs (qs.getD i 0) ≤ ys.length := by
      have h2 := toAt_succ (xs := xs) hi
      have h3 := h.end_le ht1 (i + 1) (by omega)
      rw [← hys, hbl]
      omega
    have l1 := fieldsAt_length hspan
    have l2 := fieldsAt_length (xs := xs) (p := qs.getD i 0) (f := lenAt xs (qs.getD i 0)) (by omega)
    congr 2
    refine List.ext_getElem (by rw [List.length_map, List.length_map, l1, l2]) (fun k hk1 hk2 => ?_)
    rw [List.length_map, l1] at hk1
    rw [List.getElem_map, List.getElem_map]
    have g1 := fieldsAt_getD (xs := ys) (p := toAt xs qs i) (f := lenAt xs (qs.getD i 0)) hk1
    have g2 := fieldsAt_getD (xs := xs) (p := qs.getD i 0) (f := lenAt xs (qs.getD i 0)) hk1
    have g3 := h.built_field ht n m hi hk1
    rw [hys] at g3
    rw [getD_elem (by rw [l1]; exact hk1)] at g1
    rw [getD_elem (by rw [l2]; exact hk1)] at g2
    rw [g1, g2, g3]
    rcases redir_cases hd hc hi (k := k) (by rw [f4]; omega) _ rfl with ⟨h2, h3⟩ | ⟨h2, h3⟩ | ⟨h2, j, hj, h3⟩
    · rw [h3]; unfold redir; rw [if_neg (by omega)]
    · rw [h3]; unfold redir; rw [if_pos (by omega), show (1 : Int) / 2 = 0 by omega, hd2.zero]; rfl
    · rw [h3]
      unfold redir
      rw [if_pos (by omega), show (2 * ((toAt xs qs j : Nat) : Int) + 1) / 2 = ((toAt xs qs j : Nat) : Int) by omega]
      have := hd2.new j (by rw [destOf_length]; exact hj)
      rw [destOf_getD hj, h.toAt_built ht n m j (by omega)] at this
      rw [this]
      rfl
  have hfr : ∀ j, j ≤ qs.length → front ys m2 (destOf xs qs) j = front xs m qs j := by
    intro j
    induction j with
    | zero => intro _; rw [front_zero, front_zero]
    | succ j ih =>
      intro hj
      rw [front_succ (by rw [destOf_length]; omega), front_succ (by omega), ih (by omega), destOf_getD (by omega), hobj j (by omega)]
  rw [hys]
  conv => lhs; unfold built
  rw [destOf_length, hfr _ (Nat.le_refl _), ← hys]
  rfl
end Go.Proofs.Ytpdcaoagpjcgbab
