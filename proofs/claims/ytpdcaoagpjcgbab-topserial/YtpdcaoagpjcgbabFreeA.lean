/-
  Plain mathematics of the machine of threads: a collection when no thread holds an object. No program is named here. It proves no statement by itself.
-/
import Derived.Test.YtpdcaoagpjcgbabRunA
set_option linter.unusedVariables false
set_option linter.unusedSimpArgs false
namespace Go.Proofs.Ytpdcaoagpjcgbab
open Stm

theorem step_abort {c c' : Mc} {l : List Nat} {t : Nat} {r : Ans} (ht : t < 4) (h : StepC c l ⟨3, t, 0, 0, 0⟩ r c') : CAbort c t r c' := by
  have hfe : firstErr ⟨3, t, 0, 0, 0⟩ = 0 := by simp [firstErr, In4, usesA, usesB]; omega
  exact (((h.yes hfe).no (by simp)).no (by simp)).yes rfl
theorem step_set {c c' : Mc} {l : List Nat} {t A : Nat} {r : Ans} (ht : t < 4) (hA : A < 4) (h : StepC c l ⟨7, t, A, 0, 0⟩ r c') : c' = ⟨c.xs, c.top, upd c.regs t (upd (c.regs t) A ⟨0, 0⟩), c.tx, c.coll⟩ := by
  have hfe : firstErr ⟨7, t, A, 0, 0⟩ = 0 := by simp [firstErr, In4, usesA, usesB]; omega
  have h7 : CSet c t A 0 r c' := (((((((h.yes hfe).no (by simp)).no (by simp)).no (by simp)).no (by simp)).no (by simp)).no (by simp)).yes rfl
  exact (h7.yes (by omega)).2
theorem step_step {c c' : Mc} {l : List Nat} {r : Ans} {n : Int} (h : StepC c l ⟨11, 0, 0, 0, n⟩ r c') : CStepC c l n r c' := by
  have hfe : firstErr ⟨11, 0, 0, 0, n⟩ = 0 := by simp [firstErr, usesA, usesB]
  exact (((((((((((h.yes hfe).no (by simp)).no (by simp)).no (by simp)).no (by simp)).no (by simp)).no (by simp)).no (by simp)).no (by simp)).no (by simp)).no (by simp)).yes rfl
theorem step_collect {c c' : Mc} {l : List Nat} {r : Ans} (h : StepC c l ⟨10, 0, 0, 0, 0⟩ r c') : CCollect c l r c' := by
  have hfe : firstErr ⟨10, 0, 0, 0, 0⟩ = 0 := by simp [firstErr, usesA, usesB]
  exact ((((((((((h.yes hfe).no (by simp)).no (by simp)).no (by simp)).no (by simp)).no (by simp)).no (by simp)).no (by simp)).no (by simp)).no (by simp)).yes rfl
theorem step_stat {c c' : Mc} {l : List Nat} {r : Ans} (h : StepC c l ⟨12, 0, 0, 0, 0⟩ r c') : CStat c r c' := by
  have hfe : firstErr ⟨12, 0, 0, 0, 0⟩ = 0 := by simp [firstErr, usesA, usesB]
  exact (((((((((((h.yes hfe).no (by simp)).no (by simp)).no (by simp)).no (by simp)).no (by simp)).no (by simp)).no (by simp)).no (by simp)).no (by simp)).no (by simp)).no (by simp)

/-- A script, from a state on. -/
inductive Steps : Mc → List Nat → Nat → List Stm.Act → List Ans → Mc → List Nat → Prop where
  | nil {c : Mc} {lf : List Nat} {k : Nat} : Steps c lf k [] [] c lf
  | cons {c c1 c2 : Mc} {lf lf1 lf2 : List Nat} {k : Nat} {a : Stm.Act} {r : Ans} {l : List Stm.Act} {rs : List Ans} (hs : StepC c lf a r c1) (hg : Good c1 lf1 (k + 1)) (h : Steps c1 lf1 (k + 1) l rs c2 lf2) : Steps c lf k (a :: l) (r :: rs) c2 lf2
theorem Steps.snoc {c c1 : Mc} {lf lf1 : List Nat} {k : Nat} {l : List Stm.Act} {rs : List Ans} (h : Steps c lf k l rs c1 lf1) : ∀ {a : Stm.Act} {r : Ans} {c2 : Mc} {lf2 : List Nat}, StepC c1 lf1 a r c2 → Good c2 lf2 (k + l.length + 1) → Steps c lf k (l ++ [a]) (rs ++ [r]) c2 lf2 := by
  induction h with
  | nil => intro a r c2 lf2 hs hg; exact .cons hs hg .nil
  | cons hs' hg' _ ih =>
    intro a r c2 lf2 hs hg
    exact .cons hs' hg' (ih hs (by rw [List.length_cons] at hg; rw [show ∀ x y : Nat, x + 1 + y + 1 = x + (y + 1) + 1 by omega]; exact hg))
theorem RunC.steps {n : Nat} {l : List Stm.Act} {rs : List Ans} {c : Mc} {lf : List Nat} (h : RunC n l rs c lf) : ∀ (l1 l2 : List Stm.Act), l = l1 ++ l2 → ∃ r1 r2 c1 lf1, rs = r1 ++ r2 ∧ RunC n l1 r1 c1 lf1 ∧ Steps c1 lf1 l1.length l2 r2 c lf := by
  induction h with
  | nil =>
    intro l1 l2 e
    obtain ⟨rfl, rfl⟩ := List.append_eq_nil_iff.1 e.symm
    exact ⟨[], [], _, _, rfl, .nil, .nil⟩
  | @snoc l rs c lf a r c1 lf1 h hs hg ih =>
    intro l1 l2 e
    rcases List.eq_nil_or_concat l2 with rfl | ⟨l3, b, rfl⟩
    · rw [List.append_nil] at e
      subst e
      exact ⟨rs ++ [r], [], _, _, by simp, .snoc h hs hg, .nil⟩
    · rw [List.concat_eq_append, ← List.append_assoc] at e
      obtain ⟨e1, e2⟩ := List.append_inj' e rfl
      simp at e2
      subst e2
      obtain ⟨r1, r2, c2, lf2, rfl, h2, h3⟩ := ih l1 l3 e1
      refine ⟨r1, r2 ++ [r], c2, lf2, by simp, h2, ?_⟩
      rw [List.concat_eq_append]
      exact h3.snoc hs (by rw [e1, List.length_append] at hg; exact hg)

/-- Threads before t are closed, and their registers are numbers; so are the first r registers of t, if it is closed. -/
structure Clean (c : Mc) (t r : Nat) : Prop where
  shut : ∀ u, u < t → (c.tx u).isOpen = false
  regs : ∀ u, u < t → ∀ q, q < 4 → (c.regs u q).k = 0
  part : r ≠ 0 → (c.tx t).isOpen = false
  some : ∀ q, q < r → (c.regs t q).k = 0

theorem Clean.abort {c c' : Mc} {l : List Nat} {t : Nat} {a : Ans} (h : Clean c t 0) (ht : t < 4) (hs : StepC c l ⟨3, t, 0, 0, 0⟩ a c') : Clean c' t 0 ∧ (c'.tx t).isOpen = false := by
  have h3 := step_abort ht hs
  by_cases ho : (c.tx t).isOpen = true
  · obtain ⟨_, ys, _, rfl⟩ := h3.yes ho
    refine ⟨⟨fun u hu => ?_, fun u hu q hq => ?_, fun h => absurd rfl h, fun q hq => absurd hq (Nat.not_lt_zero _)⟩, by simp [upd, Tx.zero]⟩
    · show (upd c.tx t .zero u).isOpen = false
      rw [upd, if_neg (by omega)]
      exact h.shut u hu
    · show (upd c.regs t _ u q).k = 0
      rw [upd, if_neg (by omega)]
      exact h.regs u hu q hq
  · obtain ⟨_, rfl⟩ := h3.no ho
    exact ⟨h, by simpa using ho⟩
theorem Clean.set {c c' : Mc} {l : List Nat} {t r : Nat} {a : Ans} (h : Clean c t r) (hc : (c.tx t).isOpen = false) (ht : t < 4) (hr : r < 4) (hs : StepC c l ⟨7, t, r, 0, 0⟩ a c') : Clean c' t (r + 1) ∧ (c'.tx t).isOpen = false := by
  obtain rfl := step_set ht hr hs
  refine ⟨⟨h.shut, fun u hu q hq => ?_, fun _ => hc, fun q hq => ?_⟩, hc⟩
  · show (upd c.regs t _ u q).k = 0
    rw [upd, if_neg (by omega)]
    exact h.regs u hu q hq
  · show (upd c.regs t (upd (c.regs t) r ⟨0, 0⟩) t q).k = 0
    rw [upd, if_pos rfl, upd]
    split
    · rfl
    · exact h.some q (by omega)
theorem Clean.next {c : Mc} {t : Nat} (h : Clean c t 4) : Clean c (t + 1) 0 :=
  ⟨fun u hu => by rcases Nat.lt_or_ge u t with h1 | h1
                  · exact h.shut u h1
                  · obtain rfl : u = t := by omega
                    exact h.part (by omega),
   fun u hu q hq => by rcases Nat.lt_or_ge u t with h1 | h1
                       · exact h.regs u h1 q hq
                       · obtain rfl : u = t := by omega
                         exact h.some q hq,
   fun h => absurd rfl h, fun q hq => absurd hq (Nat.not_lt_zero _)⟩

theorem Clean.noRoot {c : Mc} {l : List Nat} {k : Nat} (h : Clean c 4 0) (hi : Inv c l k) (q : Int) : ¬ IsRoot c q := by
  have hz : ∀ t, c.tx t = .zero := fun t => by
    rcases Nat.lt_or_ge t 4 with h1 | h1
    · exact hi.shut t (h.shut t h1)
    · exact hi.high t h1
  rintro ((⟨t, r, ht, hr, e⟩ | ⟨t, r, ht, hr, e⟩ | ⟨t, p, o, ht, e, _⟩) | ⟨t, ht, ⟨v, e⟩ | ⟨o, e⟩⟩)
  · have := h.regs t ht r hr
    rw [e] at this
    cases this
  · rw [hz t] at e
    cases e
  · rw [hz t] at e
    cases e
  · rw [hz t] at e
    cases e
  · rw [hz t] at e
    cases e

/-- A step of 400 ends a collection. -/
theorem step400 {c c' : Mc} {l : List Nat} {k : Nat} {a : Ans} (hg : Good c l k) (hs : StepC c l ⟨11, 0, 0, 0, 400⟩ a c') : (c.coll.going = false ∧ a = .err 5 ∧ c' = c) ∨ (c.coll.going = true ∧ ∃ f, a = ⟨0, false, 0, false, 0, false, f⟩ ∧ CFinish c l f c') := by
  have h1 := (step_step hs).yes (by omega)
  by_cases hgo : c.coll.going = true
  · have h2 := (h1.yes hgo).no (by have := hg.left hgo; omega)
    exact .inr ⟨hgo, h2⟩
  · exact .inl ⟨by simpa using hgo, h1.no hgo⟩
theorem Clean.finish {c c' : Mc} {l : List Nat} {f : Int} (h : Clean c 4 0) (hf : CFinish c l f c') : Clean c' 4 0 := by
  obtain ⟨qs, m, tx', hk, hd, ht, rfl, rfl⟩ := hf
  refine ⟨fun u hu => ?_, fun u hu q hq => ?_, fun h => absurd rfl h, fun q hq => absurd hq (Nat.not_lt_zero _)⟩
  · exact (ht u).isOpen.trans (h.shut u hu)
  · have := h.regs u hu q hq
    show (mvV m (c.regs u q)).k = 0
    rw [mvV, if_neg (by omega)]
    exact this
theorem finish_going {c c' : Mc} {l : List Nat} {f : Int} (hf : CFinish c l f c') : c'.coll.going = false := by
  obtain ⟨qs, m, tx', hk, hd, ht, rfl, rfl⟩ := hf
  rfl

open Lw in
/-- No thread holds an object: a collection leaves no word. -/
theorem clean_all {c c1 c2 c3 c4 : Mc} {l l1 l2 l3 : List Nat} {k : Nat} {a1 a2 a3 a4 : Ans} (h : Clean c 4 0) (hg : Good c l k)
    (s1 : StepC c l ⟨11, 0, 0, 0, 400⟩ a1 c1) (g1 : Good c1 l1 (k + 1)) (s2 : StepC c1 l1 ⟨10, 0, 0, 0, 0⟩ a2 c2) (g2 : Good c2 l2 (k + 2)) (s3 : StepC c2 l2 ⟨11, 0, 0, 0, 400⟩ a3 c3) (g3 : Good c3 l3 (k + 3))
    (s4 : StepC c3 l3 ⟨12, 0, 0, 0, 0⟩ a4 c4) : a4 = ⟨0, false, 0, false, 0, false, 0⟩ := by
  have hc1 : Clean c1 4 0 ∧ c1.coll.going = false := by
    rcases step400 hg s1 with ⟨h1, _, rfl⟩ | ⟨_, f, _, hf⟩
    · exact ⟨h, h1⟩
    · exact ⟨h.finish hf, finish_going hf⟩
  have hno := hc1.1.noRoot g1.inv
  obtain ⟨_, rs, zs, hrs, hz, rfl⟩ := (step_collect s2).no (by rw [hc1.2]; decide)
  obtain rfl : zs = [] := by
    obtain ⟨m, rfl, hm⟩ := hz
    refine List.filter_eq_nil_iff.2 fun q hq hmq => ?_
    have hr := (hm q hq).1 hmq
    have : ∀ q, ¬ Reached c1.xs rs q := fun q hq => by
      induction hq with
      | root h1 _ => exact hno _ ((hrs _).1 h1)
      | step _ _ ih => exact ih
    exact this q hr
  rcases step400 g2 s3 with ⟨h1, _⟩ | ⟨_, f, _, qs, m, tx', hk, _, _, _, rfl⟩
  · cases h1
  · obtain rfl : qs = [] := by
      have : nums qs = [] := by
        rw [← hk]
        unfold keepL
        rw [if_pos rfl]
        refine List.append_eq_nil_iff.2 ⟨rfl, List.filter_eq_nil_iff.2 fun q hq => ?_⟩
        obtain ⟨p, rfl, hp⟩ := nums_mem hq
        have h5 := (g2.inv.place hp).2.2.2.2
        have h6 : c1.top = (⟨c1.xs, c1.top, c1.regs, c1.tx, ⟨true, [], ([] : List Int).length, c1.top⟩⟩ : Mc).top := rfl
        have h7 := g1.inv.valid.top1
        simp at h5 ⊢
        omega
      unfold nums at this
      exact List.map_eq_nil_iff.1 this
    have h4 := (step_stat s4).1
    rw [h4]
    simp [toAt, wordsOf]
    rfl
end Go.Proofs.Ytpdcaoagpjcgbab

/-
  The end of the script of limewashtop.TopFree: plain mathematics. It proves no statement by itself.
-/
namespace Go.Proofs.Ytpdcaoagpjcgbab
open Stm

def clear1 (t r : Nat) : List Stm.Act := (⟨3, (t : Int), 0, 0, 0⟩ : Stm.Act) :: (List.range r).map fun i : Nat => (⟨7, (t : Int), (i : Int), 0, 0⟩ : Stm.Act)
theorem clear1_succ (t r : Nat) : clear1 t (r + 1) = clear1 t r ++ [⟨7, (t : Int), (r : Int), 0, 0⟩] := by simp [clear1, List.range_succ]
theorem clear1_length (t r : Nat) : (clear1 t r).length = r + 1 := by simp [clear1]
def clears (t : Nat) : List Stm.Act := (List.range t).flatMap fun i : Nat => clear1 i 4
theorem clears_succ (t : Nat) : clears (t + 1) = clears t ++ clear1 t 4 := by simp [clears, List.range_succ]
theorem clears_length : ∀ t, (clears t).length = 5 * t
  | 0 => rfl
  | t + 1 => by rw [clears_succ, List.length_append, clears_length t, clear1_length]; omega
def free4 : List Stm.Act := [⟨11, 0, 0, 0, 400⟩, ⟨10, 0, 0, 0, 0⟩, ⟨11, 0, 0, 0, 400⟩, ⟨12, 0, 0, 0, 0⟩]

theorem clear1_clean {n : Nat} {AL : List Stm.Act} {t : Nat} (ht : t < 4) (hcl : ∀ {rs : List Ans} {c : Mc} {lf : List Nat}, RunC n AL rs c lf → Clean c t 0) :
    ∀ r, r ≤ 4 → ∀ {rs : List Ans} {c : Mc} {lf : List Nat}, RunC n (AL ++ clear1 t r) rs c lf → Clean c t r ∧ (c.tx t).isOpen = false
  | 0, _, rs, c, lf, h => by
    obtain ⟨r1, r2, c1, lf1, rfl, h1, h2⟩ := h.steps AL [⟨3, (t : Int), 0, 0, 0⟩] rfl
    cases h2 with
    | cons hs hg h3 =>
      cases h3
      exact (hcl h1).abort ht hs
  | r + 1, hr, rs, c, lf, h => by
    rw [clear1_succ, ← List.append_assoc] at h
    obtain ⟨r1, r2, c1, lf1, rfl, h1, h2⟩ := h.steps (AL ++ clear1 t r) [⟨7, (t : Int), (r : Int), 0, 0⟩] rfl
    obtain ⟨k1, k2⟩ := clear1_clean ht hcl r (by omega) h1
    cases h2 with
    | cons hs hg h3 =>
      cases h3
      exact k1.set k2 ht (by omega) hs

theorem clears_clean {n : Nat} {AL : List Stm.Act} : ∀ t, t ≤ 4 → ∀ {rs : List Ans} {c : Mc} {lf : List Nat}, RunC n (AL ++ clears t) rs c lf → Clean c t 0
  | 0, _, _, _, _, _ => ⟨fun u hu => absurd hu (Nat.not_lt_zero _), fun u hu => absurd hu (Nat.not_lt_zero _), fun h => absurd rfl h, fun q hq => absurd hq (Nat.not_lt_zero _)⟩
  | t + 1, ht, rs, c, lf, h => by
    rw [clears_succ, ← List.append_assoc] at h
    exact (clear1_clean (by omega) (fun h => clears_clean t (by omega) h) 4 (by omega) h).1.next

theorem free_end {AL : List Stm.Act} {rs : List Ans} {c : Mc} {lf : List Nat} (h : RunC 400 (AL ++ clears 4 ++ free4) rs c lf) :
    ∃ pre, rs = pre ++ [⟨0, false, 0, false, 0, false, 0⟩] ∧ pre.length = AL.length + 23 := by
  obtain ⟨r1, r2, c1, lf1, rfl, h1, h2⟩ := h.steps (AL ++ clears 4) free4 rfl
  have hg := h1.good (by omega) (by omega)
  have hz := clears_clean 4 (by omega) h1
  have hlen := h1.length
  rw [List.length_append, clears_length] at hlen
  unfold free4 at h2
  cases h2 with
  | cons s1 g1 h2 => cases h2 with
    | cons s2 g2 h2 => cases h2 with
      | cons s3 g3 h2 => cases h2 with
        | cons s4 g4 h2 =>
          cases h2
          obtain rfl := clean_all hz hg s1 g1 s2 g2 s3 g3 s4
          exact ⟨r1 ++ [_, _, _], (List.append_assoc r1 [_, _, _] [_]).symm, by simp; omega⟩
end Go.Proofs.Ytpdcaoagpjcgbab

/-
  Plain mathematics of the machine of threads: behind a collection every object is reachable, and a second collection frees nothing. No program is named here. It proves no statement by itself.
-/
namespace Go.Proofs.Ytpdcaoagpjcgbab
open Stm

/-- No transaction is open. -/
def Shut (c : Mc) : Prop := ∀ t, c.tx t = .zero
theorem Shut.root {c : Mc} (h : Shut c) {q : Int} : IsRoot c q ↔ ∃ t r, t < 4 ∧ r < 4 ∧ c.regs t r = ⟨1, q⟩ := by
  constructor
  · rintro ((⟨t, r, ht, hr, e⟩ | ⟨t, r, ht, hr, e⟩ | ⟨t, p, o, ht, e, _⟩) | ⟨t, ht, ⟨v, e⟩ | ⟨o, e⟩⟩)
    · exact ⟨t, r, ht, hr, e⟩
    · rw [h t] at e; cases e
    · rw [h t] at e; cases e
    · rw [h t] at e; cases e
    · rw [h t] at e; cases e
  · rintro ⟨t, r, ht, hr, e⟩
    exact .inl (.inl ⟨t, r, ht, hr, e⟩)
theorem Shut.finish {c c' : Mc} {l l' : List Nat} {k : Nat} {f : Int} (h : Shut c) (hf : CFinish c l f c') (hi : Inv c' l' k) : Shut c' := by
  obtain ⟨qs, m, tx', hk, hd, ht, rfl, rfl⟩ := hf
  intro t
  exact hi.shut t (by rw [(ht t).isOpen, h t]; rfl)

open Lw in
/-- The collection and its end, with no act between. -/
theorem collected {c c' : Mc} {l l' : List Nat} {k k' k2 : Nat} {rs zs : List Int} {f : Int} (hi : Inv c l k) (hs : Shut c) (hrs : ∀ q, q ∈ rs ↔ IsRoot c q) (hz : ReachOf c.xs l rs zs)
    (hg : Inv ⟨c.xs, c.top, c.regs, c.tx, ⟨true, zs, zs.length, c.top⟩⟩ l k2) (hf : CFinish ⟨c.xs, c.top, c.regs, c.tx, ⟨true, zs, zs.length, c.top⟩⟩ l f c') (hi' : Inv c' l' k') :
    (toAt c'.xs l' l'.length : Int) = c'.top ∧ ∀ p ∈ nums l', ∀ rs', (∀ q, q ∈ rs' ↔ IsRoot c' q) → Reached c'.xs rs' p := by
  have hs' : Shut c' := Shut.finish (c := ⟨c.xs, c.top, c.regs, c.tx, ⟨true, zs, zs.length, c.top⟩⟩) hs hf hi'
  obtain ⟨qs, m, tx', hkq, hd, htx, _, rfl⟩ := hf
  obtain ⟨qs', hkq', hkept, hclosed⟩ := hg.kept rfl
  obtain rfl := nums_inj (hkq.symm.trans hkq')
  have hv := hg.valid
  have hroom := Room.of hv.objects hkept
  have v1 := hv.top1
  have v2 := hv.top2
  have v3 := hv.len2
  have hle : c.top.toNat ≤ c.xs.length := by simp at v1 v2; omega
  have hvb := valid_built hv hkept hd hclosed rfl
  obtain rfl : l' = destOf c.xs qs := hi'.valid.unique hvb
  have hkz : nums qs = zs := by
    rw [← hkq]
    unfold keepL
    rw [if_pos rfl]
    have : (nums l).filter (fun q => decide (c.top ≤ q)) = [] := List.filter_eq_nil_iff.2 fun q hq => by
      obtain ⟨p, rfl, hp⟩ := nums_mem hq
      have h5 := (hi.place hp).2.2.2.2
      have h7 := hi.valid.top1
      simp
      omega
    simp [this]
  have hro : RootsOk (nums l) rs := fun q hq => .inr (hi.sub (hi.roots ((hrs q).1 hq)))
  refine ⟨?_, ?_⟩
  · show ((toAt (built c.xs.length c.xs m qs qs.length) (destOf c.xs qs) (destOf c.xs qs).length : Nat) : Int) = (toAt c.xs qs qs.length : Nat)
    rw [destOf_length, hroom.toAt_built hle _ _ _ (Nat.le_refl _)]
  · intro p hp rs' hrs'
    obtain ⟨d, rfl, hd'⟩ := nums_mem hp
    obtain ⟨i, hil, rfl⟩ := mem_destOf.1 hd'
    have hin : ∀ q, Reached c.xs rs q → q ∈ nums qs → Reached (built c.xs.length c.xs m qs qs.length) rs' (mvN m q) := by
      intro q hq
      induction hq with
      | @root q h1 h0 =>
        intro hqm
        obtain ⟨t, r, ht, hr, e⟩ := (hs.root).1 ((hrs q).1 h1)
        refine .root ((hrs' _).2 ((hs'.root).2 ⟨t, r, ht, hr, ?_⟩)) ?_
        · show mvV m (c.regs t r) = _
          rw [e, mvV, if_pos rfl]
        · obtain ⟨j, hj, e2⟩ := mem_at.1 hqm
          rw [nums_length] at hj
          rw [nums_getD] at e2
          unfold mvN
          rw [← e2, hd.new j hj]
          simp [toAt]
          omega
      | @step p q h1 h2 ih =>
        intro hqm
        have hpm : (p : Int) ∈ nums qs := by
          rw [hkz]
          obtain ⟨m', rfl, hm'⟩ := hz
          have hpl : (p : Int) ∈ nums l := Reached.mem hi.valid.fields hro h1
          exact List.mem_filter.2 ⟨hpl, (hm' _ hpl).2 h1⟩
        have h3 := ih hpm
        obtain ⟨j, hj, e2⟩ := mem_at.1 hpm
        rw [nums_length] at hj
        rw [nums_getD] at e2
        have e3 : mvN m p = (toAt c.xs qs j : Nat) := by
          unfold mvN
          rw [← e2, hd.new j hj]
          rfl
        rw [e3] at h3
        have e4 : qs.getD j 0 = p := by omega
        refine .step h3 ?_
        obtain ⟨kf, g1, g2, g3, g4⟩ := h2
        have hfit := hroom.fit (getD_mem hj)
        rw [e4] at hfit
        have hfl : c.xs.getD (p + 1) 0 = (lenAt c.xs p : Int) := hfit.2.2.2
        have g5 : kf < lenAt c.xs p := by rw [hfl] at g1; omega
        refine ⟨kf, ?_, ?_, ?_, ?_⟩
        · rw [hroom.built_len hle _ _ hj, e4]
          exact g1
        · rw [hroom.built_field hle _ _ hj (by rw [e4]; exact g5), e4, redir, if_pos g2]
          omega
        · rw [hroom.built_field hle _ _ hj (by rw [e4]; exact g5), e4, redir, if_pos g2, g3]
          unfold mvN
          omega
        · obtain ⟨j', hj', e5⟩ := mem_at.1 hqm
          rw [nums_length] at hj'
          rw [nums_getD] at e5
          unfold mvN
          rw [← e5, hd.new j' hj']
          simp [toAt]
          omega
    have hq : (qs.getD i 0 : Int) ∈ nums qs := mem_nums.2 (getD_mem hil)
    have hr : Reached c.xs rs (qs.getD i 0 : Int) := by
      rw [hkz] at hq
      obtain ⟨m', rfl, hm'⟩ := hz
      have := List.mem_filter.1 hq
      exact (hm' _ this.1).1 this.2
    have h9 := hin _ hr hq
    have e9 : mvN m (qs.getD i 0 : Int) = (toAt c.xs qs i : Nat) := by
      unfold mvN
      rw [hd.new i hil]
      rfl
    rw [e9] at h9
    exact h9

/-- Behind a collection, a second one frees nothing. -/
theorem held_all {c c1 c2 c3 c4 c5 c6 c7 : Mc} {l l1 l2 l3 l4 l5 l6 : List Nat} {k : Nat} {a1 a2 a3 a4 a5 a6 a7 : Ans} (hs : Shut c) (hg : Good c l k)
    (s1 : StepC c l ⟨11, 0, 0, 0, 400⟩ a1 c1) (g1 : Good c1 l1 (k + 1)) (s2 : StepC c1 l1 ⟨10, 0, 0, 0, 0⟩ a2 c2) (g2 : Good c2 l2 (k + 2)) (s3 : StepC c2 l2 ⟨11, 0, 0, 0, 400⟩ a3 c3) (g3 : Good c3 l3 (k + 3))
    (s4 : StepC c3 l3 ⟨12, 0, 0, 0, 0⟩ a4 c4) (g4 : Good c4 l4 (k + 4)) (s5 : StepC c4 l4 ⟨10, 0, 0, 0, 0⟩ a5 c5) (g5 : Good c5 l5 (k + 5)) (s6 : StepC c5 l5 ⟨11, 0, 0, 0, 400⟩ a6 c6) (g6 : Good c6 l6 (k + 6))
    (s7 : StepC c6 l6 ⟨12, 0, 0, 0, 0⟩ a7 c7) : a7 = a4 ∧ a6 = ⟨0, false, 0, false, 0, false, 0⟩ := by
  have hc1 : Shut c1 ∧ c1.coll.going = false := by
    rcases step400 hg s1 with ⟨h1, _, rfl⟩ | ⟨_, f, _, hf⟩
    · exact ⟨hs, h1⟩
    · exact ⟨hs.finish hf g1.inv, finish_going hf⟩
  obtain ⟨_, rs, zs, hrs, hz, rfl⟩ := (step_collect s2).no (by rw [hc1.2]; decide)
  obtain rfl : l2 = l1 := g2.inv.valid.unique g1.inv.valid
  rcases step400 g2 s3 with ⟨h1, _⟩ | ⟨_, f, _, hf⟩
  · cases h1
  obtain ⟨ht3, hr3⟩ := collected g1.inv hc1.1 hrs hz g2.inv hf g3.inv
  have hg3 := finish_going hf
  obtain ⟨h4, rfl⟩ := step_stat s4
  obtain rfl : l4 = l3 := g4.inv.valid.unique g3.inv.valid
  obtain ⟨_, rs5, zs5, hrs5, hz5, rfl⟩ := (step_collect s5).no (by rw [hg3]; decide)
  obtain rfl : l5 = l4 := g5.inv.valid.unique g4.inv.valid
  obtain rfl : zs5 = nums l5 := by
    obtain ⟨m, rfl, hm⟩ := hz5
    exact List.filter_eq_self.2 fun q hq => (hm q hq).2 (hr3 q hq rs5 hrs5)
  rcases step400 g5 s6 with ⟨h1, _⟩ | ⟨_, f6, h6, qs, m, tx', hk, _, _, hf6, rfl⟩
  · cases h1
  obtain rfl : qs = l5 := by
    apply nums_inj
    rw [← hk]
    unfold keepL
    rw [if_pos rfl]
    have : (nums l5).filter (fun q => decide (c4.top ≤ q)) = [] := List.filter_eq_nil_iff.2 fun q hq => by
      obtain ⟨p, rfl, hp⟩ := nums_mem hq
      have h5 := (g4.inv.place hp).2.2.2.2
      have h7 := g4.inv.valid.top1
      simp
      omega
    simp [this]
  obtain ⟨h7, _⟩ := step_stat s7
  refine ⟨?_, ?_⟩
  · rw [h7, h4, hg3]
    have : ((toAt c4.xs qs qs.length : Nat) : Int) - 1 = c4.top - 1 := by omega
    exact congrArg (fun x => (⟨0, false, 0, false, x, false, 0⟩ : Ans)) this
  · rw [h6, hf6]
    have : c4.top - ((toAt c4.xs qs qs.length : Nat) : Int) = 0 := by omega
    exact congrArg (fun x => (⟨0, false, 0, false, 0, false, x⟩ : Ans)) this
end Go.Proofs.Ytpdcaoagpjcgbab

/-
  The end of the script of limewashtop.TopHeld: plain mathematics. It proves no statement by itself.
-/
namespace Go.Proofs.Ytpdcaoagpjcgbab
open Stm

def aborts (t : Nat) : List Stm.Act := (List.range t).map fun i : Nat => (⟨3, (i : Int), 0, 0, 0⟩ : Stm.Act)
theorem aborts_succ (t : Nat) : aborts (t + 1) = aborts t ++ [⟨3, (t : Int), 0, 0, 0⟩] := by simp [aborts, List.range_succ]
theorem aborts_length (t : Nat) : (aborts t).length = t := by simp [aborts]
def held7 : List Stm.Act := [⟨11, 0, 0, 0, 400⟩, ⟨10, 0, 0, 0, 0⟩, ⟨11, 0, 0, 0, 400⟩, ⟨12, 0, 0, 0, 0⟩, ⟨10, 0, 0, 0, 0⟩, ⟨11, 0, 0, 0, 400⟩, ⟨12, 0, 0, 0, 0⟩]

theorem abort_shut {c c' : Mc} {l : List Nat} {t : Nat} {a : Ans} (ht : t < 4) (hs : StepC c l ⟨3, t, 0, 0, 0⟩ a c') : (c'.tx t).isOpen = false ∧ ∀ u, (c.tx u).isOpen = false → (c'.tx u).isOpen = false := by
  have h3 := step_abort ht hs
  by_cases ho : (c.tx t).isOpen = true
  · obtain ⟨_, ys, _, rfl⟩ := h3.yes ho
    refine ⟨by simp [upd, Tx.zero], fun u hu => ?_⟩
    show (upd c.tx t .zero u).isOpen = false
    rw [upd]
    split
    · rfl
    · exact hu
  · obtain ⟨_, rfl⟩ := h3.no ho
    exact ⟨by simpa using ho, fun u hu => hu⟩

theorem aborts_shut {n : Nat} {AL : List Stm.Act} : ∀ t, t ≤ 4 → ∀ {rs : List Ans} {c : Mc} {lf : List Nat}, RunC n (AL ++ aborts t) rs c lf → ∀ u, u < t → (c.tx u).isOpen = false
  | 0, _, _, _, _, _, u, hu => absurd hu (Nat.not_lt_zero _)
  | t + 1, ht, rs, c, lf, h, u, hu => by
    rw [aborts_succ, ← List.append_assoc] at h
    obtain ⟨r1, r2, c1, lf1, rfl, h1, h2⟩ := h.steps (AL ++ aborts t) [⟨3, (t : Int), 0, 0, 0⟩] rfl
    have ih := aborts_shut t (by omega) h1
    cases h2 with
    | cons hs hg h3 =>
      cases h3
      obtain ⟨k1, k2⟩ := abort_shut (by omega) hs
      rcases Nat.lt_or_ge u t with h5 | h5
      · exact k2 u (ih u h5)
      · obtain rfl : u = t := by omega
        exact k1

theorem held_end {AL : List Stm.Act} {rs : List Ans} {c : Mc} {lf : List Nat} (h : RunC 400 (AL ++ aborts 4 ++ held7) rs c lf) :
    ∃ pre a1 a2 a3 a4 a5, rs = pre ++ [a1, a2, a3, a4, a5, ⟨0, false, 0, false, 0, false, 0⟩, a4] ∧ pre.length = AL.length + 4 := by
  obtain ⟨r1, r2, c1, lf1, rfl, h1, h2⟩ := h.steps (AL ++ aborts 4) held7 rfl
  have hg := h1.good (by omega) (by omega)
  have hsh := aborts_shut 4 (by omega) h1
  have hz : Shut c1 := fun t => by
    rcases Nat.lt_or_ge t 4 with h5 | h5
    · exact hg.inv.shut t (hsh t h5)
    · exact hg.inv.high t h5
  have hlen := h1.length
  rw [List.length_append, aborts_length] at hlen
  unfold held7 at h2
  cases h2 with
  | cons s1 g1 h2 => cases h2 with
    | cons s2 g2 h2 => cases h2 with
      | cons s3 g3 h2 => cases h2 with
        | cons s4 g4 h2 => cases h2 with
          | cons s5 g5 h2 => cases h2 with
            | cons s6 g6 h2 => cases h2 with
              | cons s7 g7 h2 =>
                cases h2
                obtain ⟨rfl, rfl⟩ := held_all hz hg s1 g1 s2 g2 s3 g3 s4 g4 s5 g5 s6 g6 s7
                exact ⟨r1, _, _, _, _, _, rfl, hlen⟩
end Go.Proofs.Ytpdcaoagpjcgbab

