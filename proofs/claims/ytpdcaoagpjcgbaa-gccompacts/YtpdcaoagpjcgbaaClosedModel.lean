/-
  Plain mathematics of the reference's way to compact a heap: words written one by one. It proves no statement by itself.
-/
import Derived.Test.YtpdcaoagpjcgbaaMoveModel
namespace Go.Proofs.Ytpdcaoagpjcgbaa

/-- There is a table of new addresses. -/
theorem Dest.exists {xs : List Int} {qs : List Nat} (hs : qs.Pairwise (· < ·)) (h0 : ∀ q ∈ qs, q ≠ 0) : ∀ j, j ≤ qs.length → ∃ m, Dest xs qs j m
  | 0, _ => ⟨_, Dest.start xs qs⟩
  | j + 1, hj => by
    obtain ⟨m, hm⟩ := Dest.exists hs h0 j (by omega)
    exact ⟨_, hm.step (by omega) hs (h0 _ (getD_mem (by omega)))⟩

/-- The words while the fields of the j-th object are being written. -/
def fill (n : Nat) (xs : List Int) (m : Int → Option Int) (qs : List Nat) (j p f t q : Nat) : List Int :=
  (front xs m qs j ++ [xs.getD p 0, xs.getD (p + 1) 0] ++ ((fieldsAt xs p f).take q).map (redir m)) ++ List.replicate (n - (t + 2 + q)) 0

theorem replicate_cons {n k : Nat} (h : k < n) : List.replicate (n - k) (0 : Int) = 0 :: List.replicate (n - (k + 1)) 0 := by
  rw [show n - k = (n - (k + 1)) + 1 by omega, List.replicate_succ]

theorem fill_start {n : Nat} {xs : List Int} {m : Int → Option Int} {qs : List Nat} {j p f t : Nat} (hfl : (front xs m qs j).length = t) (hn : t + 2 + f ≤ n) :
    ((built n xs m qs j).set t (xs.getD p 0)).set (t + 1) (xs.getD (p + 1) 0) = fill n xs m qs j p f t 0 := by
  unfold built fill
  rw [hfl, replicate_cons (n := n) (k := t) (by omega), replicate_cons (n := n) (k := t + 1) (by omega), mid_set _ _ _ _ hfl]
  rw [show front xs m qs j ++ xs.getD p 0 :: 0 :: List.replicate (n - (t + 1 + 1)) 0 = (front xs m qs j ++ [xs.getD p 0]) ++ 0 :: List.replicate (n - (t + 1 + 1)) 0 by simp, mid_set _ _ _ _ (by rw [List.length_append, hfl]; rfl)]
  simp

theorem fill_length {n : Nat} {xs : List Int} {m : Int → Option Int} {qs : List Nat} {j p f t q : Nat} (hfl : (front xs m qs j).length = t) (hx : p + 2 + f ≤ xs.length) (hq : q ≤ f) : (front xs m qs j ++ [xs.getD p 0, xs.getD (p + 1) 0] ++ ((fieldsAt xs p f).take q).map (redir m)).length = t + 2 + q := by
  have h1 := fieldsAt_length hx
  rw [List.length_append, List.length_append, hfl, List.length_map, List.length_take, h1]
  simp
  omega

theorem fill_step {n : Nat} {xs : List Int} {m : Int → Option Int} {qs : List Nat} {j p f t q : Nat} (hfl : (front xs m qs j).length = t) (hx : p + 2 + f ≤ xs.length) (hn : t + 2 + f ≤ n) (hq : q < f) {z : Int} (hz : redir m (xs.getD (p + 2 + q) 0) = z) :
    (fill n xs m qs j p f t q).set (t + 2 + q) z = fill n xs m qs j p f t (q + 1) := by
  have h1 := fieldsAt_length hx
  have h2 := fieldsAt_getD (xs := xs) (p := p) (f := f) hq
  have h3 : (fieldsAt xs p f).getD q 0 = (fieldsAt xs p f)[q]'(by omega) := by simp [List.getD_eq_getElem?_getD, List.getElem?_eq_getElem (show q < (fieldsAt xs p f).length by omega)]
  unfold fill
  rw [replicate_cons (n := n) (k := t + 2 + q) (by omega), mid_set _ _ _ _ (fill_length (n := n) hfl hx (by omega)), take_map_snoc (by omega), ← h3, h2, hz]
  simp only [List.append_assoc, List.cons_append, List.nil_append]
  rfl

theorem fill_end {n : Nat} {xs : List Int} {t : Nat} {l qs : List Nat} (h : Room xs t l qs) (h1 : 1 ≤ t) (ht : t ≤ xs.length) (m : Int → Option Int) {j : Nat} (hj : j < qs.length) :
    fill n xs m qs j (qs.getD j 0) (lenAt xs (qs.getD j 0)) (toAt xs qs j) (lenAt xs (qs.getD j 0)) = built n xs m qs (j + 1) := by
  rw [← h.redirected h1 ht m hj]
  unfold fill
  have hfit := h.fit (getD_mem hj)
  have h2 := fieldsAt_length (xs := xs) (p := qs.getD j 0) (f := lenAt xs (qs.getD j 0)) (by omega)
  rw [List.take_of_length_le (by omega), toAt_succ hj, show toAt xs qs j + 2 + lenAt xs (qs.getD j 0) = toAt xs qs j + (2 + lenAt xs (qs.getD j 0)) by omega]
  simp

/-- What the search for a new address has found among the first z kept objects. -/
def Found (xs : List Int) (qs : List Nat) (x : Int) (z : Nat) (v : Int) : Prop :=
  ((∀ i, i < z → ((qs.getD i 0 : Nat) : Int) ≠ x) ∧ v = 0) ∨ ∃ i, i < z ∧ ((qs.getD i 0 : Nat) : Int) = x ∧ v = 2 * ((toAt xs qs i : Nat) : Int) + 1

theorem Found.none {xs : List Int} {qs : List Nat} {x v : Int} (h : Found xs qs x qs.length v) (hv : v = 0) : x ∉ nums qs := by
  rcases h with ⟨h, _⟩ | ⟨i, _, _, h⟩
  · intro hm
    obtain ⟨i, hi, rfl⟩ := mem_at.1 hm
    rw [nums_length] at hi
    exact h i hi (nums_getD qs i).symm
  · omega

theorem Found.some {xs : List Int} {qs : List Nat} {m : Int → Option Int} {y v : Int} (h : Found xs qs (y / 2) qs.length v) (hd : Dest xs qs qs.length m) (hy : y % 2 = 1) (hv : v ≠ 0) : redir m y = v := by
  rcases h with ⟨_, h⟩ | ⟨i, hi, h1, h2⟩
  · exact absurd h hv
  · unfold redir
    rw [if_pos hy, ← h1, hd.new i hi, h2]
    rfl
end Go.Proofs.Ytpdcaoagpjcgbaa
