/-
  Plain mathematics of heaps of words: what storing a field and creating an object do to a heap. No program is named here. It proves no statement by itself.
-/
import Derived.Test.YtpdcaoagpjcgbabModel
set_option linter.unusedVariables false
set_option linter.unusedSimpArgs false
namespace Go.Proofs.Ytpdcaoagpjcgbab.Lw

theorem getD_set (xs : List Int) (i j : Nat) (y : Int) : (xs.set i y).getD j 0 = if i = j ∧ i < xs.length then y else xs.getD j 0 := by
  simp only [List.getD_eq_getElem?_getD, List.getElem?_set]
  by_cases h : i = j
  · subst h
    by_cases h2 : i < xs.length
    · simp [h2]
    · simp [h2]
  · simp [h]
theorem getD_set_ne {xs : List Int} {i j : Nat} {y : Int} (h : i ≠ j) : (xs.set i y).getD j 0 = xs.getD j 0 := by rw [getD_set, if_neg (by omega)]
theorem getD_set_eq {xs : List Int} {i : Nat} {y : Int} (h : i < xs.length) : (xs.set i y).getD i 0 = y := by rw [getD_set, if_pos ⟨rfl, h⟩]

/-- Objects lie one behind the other: none reaches into the next. -/
theorem objs_apart {xs : List Int} {top : Nat} : ∀ (k p : Nat) (l : List Nat), top ≤ p + k → objs xs top p = some l → l.Pairwise (fun q r => nextOf xs q ≤ r) := by
  intro k
  induction k with
  | zero =>
    intro p l hk h
    rw [objs_end (by omega)] at h
    injection h with h
    subst h
    exact List.Pairwise.nil
  | succ k ih =>
    intro p l hk h
    by_cases hp : p < top
    · by_cases hf : Fit xs top p
      · rw [objs_step hp hf] at h
        obtain ⟨l', h', rfl⟩ := Option.map_eq_some_iff.1 h
        have hk' : top ≤ nextOf xs p + k := by unfold nextOf; omega
        refine List.pairwise_cons.2 ⟨fun q hq => ?_, ih _ _ hk' h'⟩
        exact ((objs_spec k (nextOf xs p) l' hk' h').1 q hq).1
      · rw [objs_none hp hf] at h; cases h
    · rw [objs_end (by omega)] at h
      injection h with h
      subst h
      exact List.Pairwise.nil

theorem fit_of_head {xs ys : List Int} {top top' p : Nat} (h : ys.getD (p + 1) 0 = xs.getD (p + 1) 0) (ht : top ≤ top') (hf : Fit xs top p) : Fit ys top' p := by
  unfold Fit at hf ⊢
  rw [h]
  omega

/-- Where the heads are the same, so are the objects; what lies behind follows. -/
theorem objs_extend {xs ys : List Int} {top top' : Nat} (ht : top ≤ top') : ∀ (k p : Nat) (l : List Nat), top ≤ p + k → p ≤ top → objs xs top p = some l → (∀ q ∈ l, ys.getD (q + 1) 0 = xs.getD (q + 1) 0) →
    objs ys top' p = (objs ys top' top).map (l ++ ·) := by
  intro k
  induction k with
  | zero =>
    intro p l hk hp h _
    obtain rfl : p = top := by omega
    rw [objs_end (Nat.le_refl _)] at h
    injection h with h
    subst h
    simp
  | succ k ih =>
    intro p l hk hpt h hh
    by_cases hp : p < top
    · by_cases hf : Fit xs top p
      · rw [objs_step hp hf] at h
        obtain ⟨l', h', rfl⟩ := Option.map_eq_some_iff.1 h
        have hhp := hh p (by simp)
        have hk' : top ≤ nextOf xs p + k := by unfold nextOf; omega
        have hle : nextOf xs p ≤ top := by unfold nextOf; exact hf.2.2.2
        have hn : nextOf ys p = nextOf xs p := by unfold nextOf; rw [hhp]
        rw [objs_step (by omega) (fit_of_head hhp ht hf), hn, ih _ _ hk' hle h' (fun q hq => hh q (List.mem_cons_of_mem _ hq)), Option.map_map]
        rfl
      · rw [objs_none hp hf] at h; cases h
    · obtain rfl : p = top := by omega
      rw [objs_end (Nat.le_refl _)] at h
      injection h with h
      subst h
      simp

theorem objs_same {xs ys : List Int} {top : Nat} {l : List Nat} (h1 : 1 ≤ top) (h : objs xs top 1 = some l) (hh : ∀ q ∈ l, ys.getD (q + 1) 0 = xs.getD (q + 1) 0) : objs ys top 1 = some l := by
  rw [objs_extend (Nat.le_refl _) top 1 l (by omega) h1 h hh, objs_end (Nat.le_refl _)]
  simp

theorem FieldOk.more {l l' : List Nat} {w : Int} (h : FieldOk l w) (hl : ∀ p ∈ l, p ∈ l') : FieldOk l' w := by
  refine ⟨fun ho => ?_, h.2⟩
  rcases h.1 ho with h1 | ⟨p, hp, e⟩
  · exact .inl h1
  · exact .inr ⟨p, hl p hp, e⟩

/-- A place of a field is no head of an object. -/
theorem field_apart {xs : List Int} {top : Nat} {l : List Nat} (ho : objs xs top 1 = some l) {p q k : Nat} (hp : p ∈ l) (hq : q ∈ l) (hk : (k : Int) < xs.getD (p + 1) 0) : p + 2 + k ≠ q ∧ p + 2 + k ≠ q + 1 := by
  have ha := objs_apart top 1 l (by omega) ho
  have hs := (objs_spec top 1 l (by omega) ho).2
  have hlt : p + 2 + k < nextOf xs p := by unfold nextOf; omega
  rcases Nat.lt_trichotomy p q with h | h | h
  · have : nextOf xs p ≤ q := by
      obtain ⟨i, hi, rfl⟩ := List.mem_iff_getElem.1 hp
      obtain ⟨j, hj, rfl⟩ := List.mem_iff_getElem.1 hq
      have hij : i < j := by
        rcases Nat.lt_trichotomy i j with h' | h' | h'
        · exact h'
        · subst h'; omega
        · have := List.pairwise_iff_getElem.1 hs j i hj hi h'; omega
      exact List.pairwise_iff_getElem.1 ha i j hi hj hij
    omega
  · subst h; omega
  · have : nextOf xs q ≤ p := by
      obtain ⟨i, hi, rfl⟩ := List.mem_iff_getElem.1 hp
      obtain ⟨j, hj, rfl⟩ := List.mem_iff_getElem.1 hq
      have hij : j < i := by
        rcases Nat.lt_trichotomy i j with h' | h' | h'
        · have := List.pairwise_iff_getElem.1 hs i j hi hj h'; omega
        · subst h'; omega
        · exact h'
      exact List.pairwise_iff_getElem.1 ha j i hj hi hij
    unfold nextOf at this
    omega

/-- A heap behind a store of a good word into a field. -/
theorem Valid.store {xs : List Int} {top : Int} {l : List Nat} (hv : Valid xs top l) {p k : Nat} (hp : p ∈ l) (hk : (k : Int) < xs.getD (p + 1) 0) {y : Int} (hy : FieldOk l y) : Valid (xs.set (p + 2 + k) y) top l := by
  have ho := hv.objects.1
  have hap := fun q (hq : q ∈ l) => field_apart ho hp hq hk
  have hfit := ((objs_spec top.toNat 1 l (by omega) ho).1 p hp).2.2
  have hin : p + 2 + k < top.toNat := by have := hfit.2.2.2; omega
  have hlen : p + 2 + k < xs.length := by have := hv.top2; omega
  have hhead : ∀ q ∈ l, (xs.set (p + 2 + k) y).getD (q + 1) 0 = xs.getD (q + 1) 0 := fun q hq => getD_set_ne (hap q hq).2
  refine ⟨by rw [List.length_set]; exact hv.len1, by rw [List.length_set]; exact hv.len2, hv.top1, by rw [List.length_set]; exact hv.top2, ⟨objs_same (by have := hv.top1; omega) ho hhead, fun q hq => ?_⟩, fun q hq j hj => ?_, fun j h1 h2 => ?_⟩
  · unfold StOk
    rw [getD_set_ne (hap q hq).1]
    exact hv.objects.2 q hq
  · rw [hhead q hq] at hj
    rw [getD_set]
    split
    · exact hy
    · exact hv.fields q hq j hj
  · rw [List.length_set] at h2
    rw [getD_set_ne (by omega)]
    exact hv.rest j h1 h2

/-- A heap behind the creation of an object. -/
theorem Valid.alloc {xs : List Int} {t f : Nat} {l : List Nat} (hv : Valid xs (t : Int) l) (hf : f ≤ 6) (hfit : t + 2 + f ≤ xs.length) : Valid (xs.set (t + 1) f) ((t : Int) + (2 + f)) (l ++ [t]) := by
  have ho := hv.objects.1
  have hst := hv.objects.2
  have hrest := hv.rest
  rw [Int.toNat_natCast] at ho hrest
  have h1 := hv.top1
  have hspec := (objs_spec t 1 l (by omega) ho).1
  have e : ((t : Int) + (2 + f)).toNat = t + 2 + f := by omega
  have hhead : ∀ q ∈ l, (xs.set (t + 1) (f : Int)).getD (q + 1) 0 = xs.getD (q + 1) 0 := fun q hq => getD_set_ne (by have := (hspec q hq).2.2.1; omega)
  have hnew : (xs.set (t + 1) (f : Int)).getD (t + 1) 0 = f := getD_set_eq (by omega)
  have hobj : objs (xs.set (t + 1) (f : Int)) (t + 2 + f) 1 = some (l ++ [t]) := by
    rw [objs_extend (xs := xs) (top := t) (by omega) t 1 l (by omega) (by omega) ho hhead]
    have hF : Fit (xs.set (t + 1) (f : Int)) (t + 2 + f) t := by unfold Fit; rw [hnew]; omega
    have hN : nextOf (xs.set (t + 1) (f : Int)) t = t + 2 + f := by unfold nextOf; rw [hnew]; omega
    rw [objs_step (by omega) hF, hN, objs_end (Nat.le_refl _)]
    simp
  refine ⟨by rw [List.length_set]; exact hv.len1, by rw [List.length_set]; exact hv.len2, by omega, by rw [List.length_set]; omega, ⟨by rw [e]; exact hobj, fun q hq => ?_⟩, fun q hq j hj => ?_, fun j h2 h3 => ?_⟩
  · unfold StOk
    rcases List.mem_append.1 hq with hq | hq
    · rw [getD_set_ne (by have := (hspec q hq).2.2.1; omega)]
      exact hst q hq
    · simp at hq
      subst hq
      rw [getD_set_ne (by omega), hrest q (Nat.le_refl _) (by omega)]
      omega
  · rcases List.mem_append.1 hq with hq | hq
    · rw [hhead q hq] at hj
      have := (hspec q hq).2.2
      rw [getD_set_ne (by have := this.2.2.2; omega)]
      exact (hv.fields q hq j hj).more (fun p hp => List.mem_append.2 (.inl hp))
    · simp at hq
      subst hq
      rw [hnew] at hj
      rw [getD_set_ne (by omega), hrest (q + 2 + j) (by omega) (by omega)]
      exact ⟨fun h => by omega, fun _ => by omega⟩
  · rw [e] at h2
    rw [List.length_set] at h3
    rw [getD_set_ne (by omega)]
    exact hrest j (by omega) h3

theorem Valid.new (n : Nat) (h1 : 1 ≤ n) (h2 : n ≤ 400) : Valid (List.replicate n 0) 1 [] := by
  refine ⟨by simpa using h1, by simpa using h2, by omega, by simp; omega, ⟨objs_end (by decide), by simp⟩, by intro p hp; simp at hp, fun k _ hk => ?_⟩
  simp at hk
  simp [List.getD_eq_getElem?_getD, hk]

theorem Valid.none_top {xs : List Int} {top : Int} (hv : Valid xs top []) : top = 1 := by
  have ho := hv.objects.1
  have h1 := hv.top1
  by_cases h : 1 < top.toNat
  · by_cases hf : Fit xs top.toNat 1
    · rw [objs_step h hf] at ho
      obtain ⟨l', _, h'⟩ := Option.map_eq_some_iff.1 ho
      cases h'
    · rw [objs_none h hf] at ho; cases ho
  · omega
end Go.Proofs.Ytpdcaoagpjcgbab.Lw
