/-
  Plain mathematics of heaps of words: which lists of words are heaps, and where their objects lie. No program is named here. It proves no statement by itself.
-/
namespace Go.Proofs.Ytpdcaoagpjcgbab.Lw

/-- May an object lie at p: its head and its fields lie below top. -/
def Fit (xs : List Int) (top p : Nat) : Prop := p + 2 ≤ top ∧ 0 ≤ xs.getD (p + 1) 0 ∧ xs.getD (p + 1) 0 ≤ 6 ∧ p + 2 + (xs.getD (p + 1) 0).toNat ≤ top
instance (xs : List Int) (top p : Nat) : Decidable (Fit xs top p) := by unfold Fit; infer_instance

/-- The place behind the object at p. -/
def nextOf (xs : List Int) (p : Nat) : Nat := p + 2 + (xs.getD (p + 1) 0).toNat

/-- The addresses of the objects from p on up to top; none: the words are not whole objects. -/
def objsFrom (xs : List Int) (top : Nat) : Nat → Nat → Option (List Nat)
  | 0, p => if p < top then none else some []
  | f + 1, p => if p < top then (if Fit xs top p then (objsFrom xs top f (nextOf xs p)).map (p :: ·) else none) else some []

theorem objsFrom_fuel (xs : List Int) (top : Nat) : ∀ (f g p : Nat), top ≤ f + p → top ≤ g + p → objsFrom xs top f p = objsFrom xs top g p := by
  intro f
  induction f with
  | zero =>
    intro g p hf hg
    cases g with
    | zero => rfl
    | succ g => simp only [objsFrom]; rw [if_neg (by omega), if_neg (by omega)]
  | succ f ih =>
    intro g p hf hg
    cases g with
    | zero => simp only [objsFrom]; rw [if_neg (by omega), if_neg (by omega)]
    | succ g =>
      simp only [objsFrom]
      by_cases h : p < top
      · rw [if_pos h, if_pos h]
        split
        · rw [ih g _ (by unfold nextOf; omega) (by unfold nextOf; omega)]
        · rfl
      · rw [if_neg h, if_neg h]

/-- The addresses of the objects from p on. -/
def objs (xs : List Int) (top p : Nat) : Option (List Nat) := objsFrom xs top top p

theorem objs_end {xs : List Int} {top p : Nat} (h : top ≤ p) : objs xs top p = some [] := by
  unfold objs
  cases top with
  | zero => simp [objsFrom]
  | succ t => simp only [objsFrom]; rw [if_neg (by omega)]

theorem objs_step {xs : List Int} {top p : Nat} (h : p < top) (hf : Fit xs top p) : objs xs top p = (objs xs top (nextOf xs p)).map (p :: ·) := by
  unfold objs
  cases top with
  | zero => omega
  | succ t =>
    have e : objsFrom xs (t + 1) (t + 1) p = (objsFrom xs (t + 1) t (nextOf xs p)).map (p :: ·) := by
      simp only [objsFrom]
      rw [if_pos h, if_pos hf]
    rw [e, objsFrom_fuel xs (t + 1) t (t + 1) _ (by unfold nextOf; omega) (by omega)]

theorem objs_none {xs : List Int} {top p : Nat} (h : p < top) (hf : ¬ Fit xs top p) : objs xs top p = none := by
  unfold objs
  cases top with
  | zero => omega
  | succ t =>
    simp only [objsFrom]
    rw [if_pos h, if_neg hf]

/-- All objects of a list lie in bounds, one behind the other. -/
theorem objs_spec {xs : List Int} {top : Nat} : ∀ (k p : Nat) (l : List Nat), top ≤ p + k → objs xs top p = some l →
    (∀ q ∈ l, p ≤ q ∧ q < top ∧ Fit xs top q) ∧ l.Pairwise (· < ·) := by
  intro k
  induction k with
  | zero =>
    intro p l hk h
    rw [objs_end (by omega)] at h
    injection h with h
    subst h
    simp
  | succ k ih =>
    intro p l hk h
    by_cases hp : p < top
    · by_cases hf : Fit xs top p
      · rw [objs_step hp hf] at h
        obtain ⟨l', h', rfl⟩ := Option.map_eq_some_iff.1 h
        obtain ⟨h1, h2⟩ := ih (nextOf xs p) l' (by unfold nextOf; omega) h'
        refine ⟨fun q hq => ?_, List.pairwise_cons.2 ⟨fun q hq => ?_, h2⟩⟩
        · rcases List.mem_cons.1 hq with rfl | hq
          · exact ⟨Nat.le_refl _, hp, hf⟩
          · have := h1 q hq
            unfold nextOf at this
            exact ⟨by omega, this.2⟩
        · have := h1 q hq
          unfold nextOf at this
          omega
      · rw [objs_none hp hf] at h; cases h
    · rw [objs_end (by omega)] at h
      injection h with h
      subst h
      simp

/-- A state that may be. -/
def StOk (xs : List Int) (p : Nat) : Prop := 0 ≤ xs.getD p 0 ∧ xs.getD p 0 ≤ 2147483648

/-- A field's word that may be. -/
def FieldOk (l : List Nat) (w : Int) : Prop := (w % 2 = 1 → w = 1 ∨ ∃ p ∈ l, (p : Int) = w / 2) ∧ (w % 2 = 0 → -2199023255552 ≤ w ∧ w ≤ 2199023255552)

/-- The objects of a heap are these. -/
def Objects (xs : List Int) (top : Nat) (l : List Nat) : Prop := objs xs top 1 = some l ∧ ∀ p ∈ l, StOk xs p

def FieldsOk (xs : List Int) (l : List Nat) : Prop := ∀ p ∈ l, ∀ k : Nat, (k : Int) < xs.getD (p + 1) 0 → FieldOk l (xs.getD (p + 2 + k) 0)
def RestZero (xs : List Int) (top : Nat) : Prop := ∀ k, top ≤ k → k < xs.length → xs.getD k 0 = 0

/-- A heap that Check takes, with its objects. -/
structure Valid (xs : List Int) (top : Int) (l : List Nat) : Prop where
  len1 : 1 ≤ xs.length
  len2 : xs.length ≤ 400
  top1 : 1 ≤ top
  top2 : top ≤ xs.length
  objects : Objects xs top.toNat l
  fields : FieldsOk xs l
  rest : RestZero xs top.toNat

theorem Valid.unique {xs : List Int} {top : Int} {l l' : List Nat} (h : Valid xs top l) (h' : Valid xs top l') : l = l' := by
  have := h.objects.1.symm.trans h'.objects.1
  injection this
end Go.Proofs.Ytpdcaoagpjcgbab.Lw
