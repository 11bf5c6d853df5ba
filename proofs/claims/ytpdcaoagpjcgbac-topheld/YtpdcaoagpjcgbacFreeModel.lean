/-
  Plain mathematics of the machine of threads: a collection when no thread holds an object. No program is named here. It proves no statement by itself.
-/
import Derived.Test.YtpdcaoagpjcgbacRunA
set_option linter.unusedVariables false
set_option linter.unusedSimpArgs false
namespace Go.Proofs.Ytpdcaoagpjcgbac
open Stm

theorem step_abort {c c' : Mc} {l : List Nat} {t : Nat} {r : Ans} (ht : t < 4) (h : StepC c l ⟨3, t, 0, 0, 0⟩ r c') : CAbort c t r c' := by
  have hfe : firstErr ⟨3, t, 0, 0, 0⟩ = 0 := by simp [firstErr, In4, usesA, usesB]; omega
  exact (((h.yes hfe).no (by simp)).no (by simp)).yes rfl
theorem step_set {c c' : Mc} {l : List Nat} {t A : Nat} {r : Ans} (ht : t < 4) (hA : A < 4) (h : StepC c l ⟨7, t, A, 0, 0⟩ r c') : c' = ⟨c.xs, c.top, upd c.regs t (upd (c.regs t) A ⟨0, 0⟩), c.tx, c.coll⟩ := by
  have hfe : firstErr ⟨7, t, A, 0, 0⟩ = 0 := by simp [firstErr, In4, usesA, usesB]; omega
  have h7 : CSet c t A 0 r c' := (((((((h.yes hfe).no (by simp)).no (by simp)).no (by simp)).no (by simp)).no (by simp)).no (by simp)).yes rfl
  exact (h7.yes (by omega)).2
theorem step_step {c c' : Mc} {l : List Nat} {r : Ans} {n : Int} (h : StepC c l ⟨11, 0, 0, 0, n⟩ r c') : CStepC c l n r c' := by
  have hfe : firstErr ⟨11, 0, 0, 0, n⟩ = 0 := by simp [firstErr, usesA, usesB]
  exact (((((((((((h.yes hfe).no (by simp)).no (by simp)).no (by simp)).no (by simp)).no (by simp)).no (by simp)).no (by simp)).no (by simp)).no (by simp)).no (by simp)).yes rfl
theorem step_collect {c c' : Mc} {l : List Nat} {r : Ans} (h : StepC c l ⟨10, 0, 0, 0, 0⟩ r c') : CCollect c l r c' := by
  have hfe : firstErr ⟨10, 0, 0, 0, 0⟩ = 0 := by simp [firstErr, usesA, usesB]
  exact ((((((((((h.yes hfe).no (by simp)).no (by simp)).no (by simp)).no (by simp)).no (by simp)).no (by simp)).no (by simp)).no (by simp)).no (by simp)).yes rfl
theorem step_stat {c c' : Mc} {l : List Nat} {r : Ans} (h : StepC c l ⟨12, 0, 0, 0, 0⟩ r c') : CStat c r c' := by
  have hfe : firstErr ⟨12, 0, 0, 0, 0⟩ = 0 := by simp [firstErr, usesA, usesB]
  exact (((((((((((h.yes hfe).no (by simp)).no (by simp)).no (by simp)).no (by simp)).no (by simp)).no (by simp)).no (by simp)).no (by simp)).no (by simp)).no (by simp)).no (by simp)

/-- A script, from a state on. -/
inductive Steps : Mc → List Nat → Nat → List Stm.Act → List Ans → Mc → List Nat → Prop where
  | nil {c : Mc} {lf : List Nat} {k : Nat} : Steps c lf k [] [] c lf
  | cons {c c1 c2 : Mc} {lf lf1 lf2 : List Nat} {k : Nat} {a : Stm.Act} {r : Ans} {l : List Stm.Act} {rs : List Ans} (hs : StepC c lf a r c1) (hg : Good c1 lf1 (k + 1)) (h : Steps c1 lf1 (k + 1) l rs c2 lf2) : Steps c lf k (a :: l) (r :: rs) c2 lf2
theorem Steps.snoc {c c1 : Mc} {lf lf1 : List Nat} {k : Nat} {l : List Stm.Act} {rs : List Ans} (h : Steps c lf k l rs c1 lf1) : ∀ {a : Stm.Act} {r : Ans} {c2 : Mc} {lf2 : List Nat}, StepC c1 lf1 a r c2 → Good c2 lf2 (k + l.length + 1) → Steps c lf k (l ++ [a]) (rs ++ [r]) c2 lf2 := by
  induction h with
  | nil => intro a r c2 lf2 hs hg; exact .cons hs hg .nil
  | cons hs' hg' _ ih =>
    intro a r c2 lf2 hs hg
    exact .cons hs' hg' (ih hs (by rw [List.length_cons] at hg; rw [show ∀ x y : Nat, x + 1 + y + 1 = x + (y + 1) + 1 by omega]; exact hg))
theorem RunC.steps {n : Nat} {l : List Stm.Act} {rs : List Ans} {c : Mc} {lf : List Nat} (h : RunC n l rs c lf) : ∀ (l1 l2 : List Stm.Act), l = l1 ++ l2 → ∃ r1 r2 c1 lf1, rs = r1 ++ r2 ∧ RunC n l1 r1 c1 lf1 ∧ Steps c1 lf1 l1.length l2 r2 c lf := by
  induction h with
  | nil =>
    intro l1 l2 e
    obtain ⟨rfl, rfl⟩ := List.append_eq_nil_iff.1 e.symm
    exact ⟨[], [], _, _, rfl, .nil, .nil⟩
  | @snoc l rs c lf a r c1 lf1 h hs hg ih =>
    intro l1 l2 e
    rcases List.eq_nil_or_concat l2 with rfl | ⟨l3, b, rfl⟩
    · rw [List.append_nil] at e
      subst e
      exact ⟨rs ++ [r], [], _, _, by simp, .snoc h hs hg, .nil⟩
    · rw [List.concat_eq_append, ← List.append_assoc] at e
      obtain ⟨e1, e2⟩ := List.append_inj' e rfl
      simp at e2
      subst e2
      obtain ⟨r1, r2, c2, lf2, rfl, h2, h3⟩ := ih l1 l3 e1
      refine ⟨r1, r2 ++ [r], c2, lf2, by simp, h2, ?_⟩
      rw [List.concat_eq_append]
      exact h3.snoc hs (by rw [e1, List.length_append] at hg; exact hg)

/-- Threads before t are closed, and their registers are numbers; so are the first r registers of t, if it is closed. -/
structure Clean (c : Mc) (t r : Nat) : Prop where
  shut : ∀ u, u < t → (c.tx u).isOpen = false
  regs : ∀ u, u < t → ∀ q, q < 4 → (c.regs u q).k = 0
  part : r ≠ 0 → (c.tx t).isOpen = false
  some : ∀ q, q < r → (c.regs t q).k = 0

theorem Clean.abort {c c' : Mc} {l : List Nat} {t : Nat} {a : Ans} (h : Clean c t 0) (ht : t < 4) (hs : StepC c l ⟨3, t, 0, 0, 0⟩ a c') : Clean c' t 0 ∧ (c'.tx t).isOpen = false := by
  have h3 := step_abort ht hs
  by_cases ho : (c.tx t).isOpen = true
  · obtain ⟨_, ys, _, rfl⟩ := h3.yes ho
    refine ⟨⟨fun u hu => ?_, fun u hu q hq => ?_, fun h => absurd rfl h, fun q hq => absurd hq (Nat.not_lt_zero _)⟩, by simp [upd, Tx.zero]⟩
    · show (upd c.tx t .zero u).isOpen = false
      rw [upd, if_neg (by omega)]
      exact h.shut u hu
    · show (upd c.regs t _ u q).k = 0
      rw [upd, if_neg (by omega)]
      exact h.regs u hu q hq
  · obtain ⟨_, rfl⟩ := h3.no ho
    exact ⟨h, by simpa using ho⟩
theorem Clean.set {c c' : Mc} {l : List Nat} {t r : Nat} {a : Ans} (h : Clean c t r) (hc : (c.tx t).isOpen = false) (ht : t < 4) (hr : r < 4) (hs : StepC c l ⟨7, t, r, 0, 0⟩ a c') : Clean c' t (r + 1) ∧ (c'.tx t).isOpen = false := by
  obtain rfl := step_set ht hr hs
  refine ⟨⟨h.shut, fun u hu q hq => ?_, fun _ => hc, fun q hq => ?_⟩, hc⟩
  · show (upd c.regs t _ u q).k = 0
    rw [upd, if_neg (by omega)]
    exact h.regs u hu q hq
  · show (upd c.regs t (upd (c.regs t) r ⟨0, 0⟩) t q).k = 0
    rw [upd, if_pos rfl, upd]
    split
    · rfl
    · exact h.some q (by omega)
theorem Clean.next {c : Mc} {t : Nat} (h : Clean c t 4) : Clean c (t + 1) 0 :=
  ⟨fun u hu => by rcases Nat.lt_or_ge u t with h1 | h1
                  · exact h.shut u h1
                  · obtain rfl : u = t := by omega
                    exact h.part (by omega),
   fun u hu q hq => by rcases Nat.lt_or_ge u t with h1 | h1
                       · exact h.regs u h1 q hq
                       · obtain rfl : u = t := by omega
                         exact h.some q hq,
   fun h => absurd rfl h, fun q hq => absurd hq (Nat.not_lt_zero _)⟩

theorem Clean.noRoot {c : Mc} {l : List Nat} {k : Nat} (h : Clean c 4 0) (hi : Inv c l k) (q : Int) : ¬ IsRoot c q := by
  have hz : ∀ t, c.tx t = .zero := fun t => by
    rcases Nat.lt_or_ge t 4 with h1 | h1
    · exact hi.shut t (h.shut t h1)
    · exact hi.high t h1
  rintro ((⟨t, r, ht, hr, e⟩ | ⟨t, r, ht, hr, e⟩ | ⟨t, p, o, ht, e, _⟩) | ⟨t, ht, ⟨v, e⟩ | ⟨o, e⟩⟩)
  · have := h.regs t ht r hr
    rw [e] at this
    cases this
  · rw [hz t] at e
    cases e
  · rw [hz t] at e
    cases e
  · rw [hz t] at e
    cases e
  · rw [hz t] at e
    cases e

/-- A step of 400 ends a collection. -/
theorem step400 {c c' : Mc} {l : List Nat} {k : Nat} {a : Ans} (hg : Good c l k) (hs : StepC c l ⟨11, 0, 0, 0, 400⟩ a c') : (c.coll.going = false ∧ a = .err 5 ∧ c' = c) ∨ (c.coll.going = true ∧ ∃ f, a = ⟨0, false, 0, false, 0, false, f⟩ ∧ CFinish c l f c') := by
  have h1 := (step_step hs).yes (by omega)
  by_cases hgo : c.coll.going = true
  · have h2 := (h1.yes hgo).no (by have := hg.left hgo; omega)
    exact .inr ⟨hgo, h2⟩
  · exact .inl ⟨by simpa using hgo, h1.no hgo⟩
theorem Clean.finish {c c' : Mc} {l : List Nat} {f : Int} (h : Clean c 4 0) (hf : CFinish c l f c') : Clean c' 4 0 := by
  obtain ⟨qs, m, tx', hk, hd, ht, rfl, rfl⟩ := hf
  refine ⟨fun u hu => ?_, fun u hu q hq => ?_, fun h => absurd rfl h, fun q hq => absurd hq (Nat.not_lt_zero _)⟩
  · exact (ht u).isOpen.trans (h.shut u hu)
  · have := h.regs u hu q hq
    show (mvV m (c.regs u q)).k = 0
    rw [mvV, if_neg (by omega)]
    exact this
theorem finish_going {c c' : Mc} {l : List Nat} {f : Int} (hf : CFinish c l f c') : c'.coll.going = false := by
  obtain ⟨qs, m, tx', hk, hd, ht, rfl, rfl⟩ := hf
  rfl

open Lw in
/-- No thread holds an object: a collection leaves no word. -/
theorem clean_all {c c1 c2 c3 c4 : Mc} {l l1 l2 l3 : List Nat} {k : Nat} {a1 a2 a3 a4 : Ans} (h : Clean c 4 0) (hg : Good c l k)
    (s1 : StepC c l ⟨11, 0, 0, 0, 400⟩ a1 c1) (g1 : Good c1 l1 (k + 1)) (s2 : StepC c1 l1 ⟨10, 0, 0, 0, 0⟩ a2 c2) (g2 : Good c2 l2 (k + 2)) (s3 : StepC c2 l2 ⟨11, 0, 0, 0, 400⟩ a3 c3) (g3 : Good c3 l3 (k + 3))
    (s4 : StepC c3 l3 ⟨12, 0, 0, 0, 0⟩ a4 c4) : a4 = ⟨0, false, 0, false, 0, false, 0⟩ := by
  have hc1 : Clean c1 4 0 ∧ c1.coll.going = false := by
    rcases step400 hg s1 with ⟨h1, _, rfl⟩ | ⟨_, f, _, hf⟩
    · exact ⟨h, h1⟩
    · exact ⟨h.finish hf, finish_going hf⟩
  have hno := hc1.1.noRoot g1.inv
  obtain ⟨_, rs, zs, hrs, hz, rfl⟩ := (step_collect s2).no (by rw [hc1.2]; decide)
  obtain rfl : zs = [] := by
    obtain ⟨m, rfl, hm⟩ := hz
    refine List.filter_eq_nil_iff.2 fun q hq hmq => ?_
    have hr := (hm q hq).1 hmq
    have : ∀ q, ¬ Reached c1.xs rs q := fun q hq => by
      induction hq with
      | root h1 _ => exact hno _ ((hrs _).1 h1)
      | step _ _ ih => exact ih
    exact this q hr
  rcases step400 g2 s3 with ⟨h1, _⟩ | ⟨_, f, _, qs, m, tx', hk, _, _, _, rfl⟩
  · cases h1
  · obtain rfl : qs = [] := by
      have : nums qs = [] := by
        rw [← hk]
        unfold keepL
        rw [if_pos rfl]
        refine List.append_eq_nil_iff.2 ⟨rfl, List.filter_eq_nil_iff.2 fun q hq => ?_⟩
        obtain ⟨p, rfl, hp⟩ := nums_mem hq
        have h5 := (g2.inv.place hp).2.2.2.2
        have h6 : c1.top = (⟨c1.xs, c1.top, c1.regs, c1.tx, ⟨true, [], ([] : List Int).length, c1.top⟩⟩ : Mc).top := rfl
        have h7 := g1.inv.valid.top1
        simp at h5 ⊢
        omega
      unfold nums at this
      exact List.map_eq_nil_iff.1 this
    have h4 := (step_stat s4).1
    rw [h4]
    simp [toAt, wordsOf]
    rfl
end Go.Proofs.Ytpdcaoagpjcgbac

