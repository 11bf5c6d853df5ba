/-
  Plain mathematics of the machine of threads: behind a collection every object is reachable, and a second collection frees nothing. No program is named here. It proves no statement by itself.
-/
import Derived.Test.YtpdcaoagpjcgbacFreeModel
set_option linter.unusedVariables false
set_option linter.unusedSimpArgs false
namespace Go.Proofs.Ytpdcaoagpjcgbac
open Stm

/-- No transaction is open. -/
def Shut (c : Mc) : Prop := ∀ t, c.tx t = .zero
theorem Shut.root {c : Mc} (h : Shut c) {q : Int} : IsRoot c q ↔ ∃ t r, t < 4 ∧ r < 4 ∧ c.regs t r = ⟨1, q⟩ := by
  constructor
  · rintro ((⟨t, r, ht, hr, e⟩ | ⟨t, r, ht, hr, e⟩ | ⟨t, p, o, ht, e, _⟩) | ⟨t, ht, ⟨v, e⟩ | ⟨o, e⟩⟩)
    · exact ⟨t, r, ht, hr, e⟩
    · rw [h t] at e; cases e
    · rw [h t] at e; cases e
    · rw [h t] at e; cases e
    · rw [h t] at e; cases e
  · rintro ⟨t, r, ht, hr, e⟩
    exact .inl (.inl ⟨t, r, ht, hr, e⟩)
theorem Shut.finish {c c' : Mc} {l l' : List Nat} {k : Nat} {f : Int} (h : Shut c) (hf : CFinish c l f c') (hi : Inv c' l' k) : Shut c' := by
  obtain ⟨qs, m, tx', hk, hd, ht, rfl, rfl⟩ := hf
  intro t
  exact hi.shut t (by rw [(ht t).isOpen, h t]; rfl)

open Lw in
/-- The collection and its end, with no act between. -/
theorem collected {c c' : Mc} {l l' : List Nat} {k k' k2 : Nat} {rs zs : List Int} {f : Int} (hi : Inv c l k) (hs : Shut c) (hrs : ∀ q, q ∈ rs ↔ IsRoot c q) (hz : ReachOf c.xs l rs zs)
    (hg : Inv ⟨c.xs, c.top, c.regs, c.tx, ⟨true, zs, zs.length, c.top⟩⟩ l k2) (hf : CFinish ⟨c.xs, c.top, c.regs, c.tx, ⟨true, zs, zs.length, c.top⟩⟩ l f c') (hi' : Inv c' l' k') :
    (toAt c'.xs l' l'.length : Int) = c'.top ∧ ∀ p ∈ nums l', ∀ rs', (∀ q, q ∈ rs' ↔ IsRoot c' q) → Reached c'.xs rs' p := by
  have hs' : Shut c' := Shut.finish (c := ⟨c.xs, c.top, c.regs, c.tx, ⟨true, zs, zs.length, c.top⟩⟩) hs hf hi'
  obtain ⟨qs, m, tx', hkq, hd, htx, _, rfl⟩ := hf
  obtain ⟨qs', hkq', hkept, hclosed⟩ := hg.kept rfl
  obtain rfl := nums_inj (hkq.symm.trans hkq')
  have hv := hg.valid
  have hroom := Room.of hv.objects hkept
  have v1 := hv.top1
  have v2 := hv.top2
  have v3 := hv.len2
  have hle : c.top.toNat ≤ c.xs.length := by simp at v1 v2; omega
  have hvb := valid_built hv hkept hd hclosed rfl
  obtain rfl : l' = destOf c.xs qs := hi'.valid.unique hvb
  have hkz : nums qs = zs := by
    rw [← hkq]
    unfold keepL
    rw [if_pos rfl]
    have : (nums l).filter (fun q => decide (c.top ≤ q)) = [] := List.filter_eq_nil_iff.2 fun q hq => by
      obtain ⟨p, rfl, hp⟩ := nums_mem hq
      have h5 := (hi.place hp).2.2.2.2
      have h7 := hi.valid.top1
      simp
      omega
    simp [this]
  have hro : RootsOk (nums l) rs := fun q hq => .inr (hi.sub (hi.roots ((hrs q).1 hq)))
  refine ⟨?_, ?_⟩
  · show ((toAt (built c.xs.length c.xs m qs qs.length) (destOf c.xs qs) (destOf c.xs qs).length : Nat) : Int) = (toAt c.xs qs qs.length : Nat)
    rw [destOf_length, hroom.toAt_built hle _ _ _ (Nat.le_refl _)]
  · intro p hp rs' hrs'
    obtain ⟨d, rfl, hd'⟩ := nums_mem hp
    obtain ⟨i, hil, rfl⟩ := mem_destOf.1 hd'
    have hin : ∀ q, Reached c.xs rs q → q ∈ nums qs → Reached (built c.xs.length c.xs m qs qs.length) rs' (mvN m q) := by
      intro q hq
      induction hq with
      | @root q h1 h0 =>
        intro hqm
        obtain ⟨t, r, ht, hr, e⟩ := (hs.root).1 ((hrs q).1 h1)
        refine .root ((hrs' _).2 ((hs'.root).2 ⟨t, r, ht, hr, ?_⟩)) ?_
        · show mvV m (c.regs t r) = _
          rw [e, mvV, if_pos rfl]
        · obtain ⟨j, hj, e2⟩ := mem_at.1 hqm
          rw [nums_length] at hj
          rw [nums_getD] at e2
          unfold mvN
          rw [← e2, hd.new j hj]
          simp [toAt]
          omega
      | @step p q h1 h2 ih =>
        intro hqm
        have hpm : (p : Int) ∈ nums qs := by
          rw [hkz]
          obtain ⟨m', rfl, hm'⟩ := hz
          have hpl : (p : Int) ∈ nums l := Reached.mem hi.valid.fields hro h1
          exact List.mem_filter.2 ⟨hpl, (hm' _ hpl).2 h1⟩
        have h3 := ih hpm
        obtain ⟨j, hj, e2⟩ := mem_at.1 hpm
        rw [nums_length] at hj
        rw [nums_getD] at e2
        have e3 : mvN m p = (toAt c.xs qs j : Nat) := by
          unfold mvN
          rw [← e2, hd.new j hj]
          rfl
        rw [e3] at h3
        have e4 : qs.getD j 0 = p := by omega
        refine .step h3 ?_
        obtain ⟨kf, g1, g2, g3, g4⟩ := h2
        have hfit := hroom.fit (getD_mem hj)
        rw [e4] at hfit
        have hfl : c.xs.getD (p + 1) 0 = (lenAt c.xs p : Int) := hfit.2.2.2
        have g5 : kf < lenAt c.xs p := by rw [hfl] at g1; omega
        refine ⟨kf, ?_, ?_, ?_, ?_⟩
        · rw [hroom.built_len hle _ _ hj, e4]
          exact g1
        · rw [hroom.built_field hle _ _ hj (by rw [e4]; exact g5), e4, redir, if_pos g2]
          omega
        · rw [hroom.built_field hle _ _ hj (by rw [e4]; exact g5), e4, redir, if_pos g2, g3]
          unfold mvN
          omega
        · obtain ⟨j', hj', e5⟩ := mem_at.1 hqm
          rw [nums_length] at hj'
          rw [nums_getD] at e5
          unfold mvN
          rw [← e5, hd.new j' hj']
          simp [toAt]
          omega
    have hq : (qs.getD i 0 : Int) ∈ nums qs := mem_nums.2 (getD_mem hil)
    have hr : Reached c.xs rs (qs.getD i 0 : Int) := by
      rw [hkz] at hq
      obtain ⟨m', rfl, hm'⟩ := hz
      have := List.mem_filter.1 hq
      exact (hm' _ this.1).1 this.2
    have h9 := hin _ hr hq
    have e9 : mvN m (qs.getD i 0 : Int) = (toAt c.xs qs i : Nat) := by
      unfold mvN
      rw [hd.new i hil]
      rfl
    rw [e9] at h9
    exact h9

/-- Behind a collection, a second one frees nothing. -/
theorem held_all {c c1 c2 c3 c4 c5 c6 c7 : Mc} {l l1 l2 l3 l4 l5 l6 : List Nat} {k : Nat} {a1 a2 a3 a4 a5 a6 a7 : Ans} (hs : Shut c) (hg : Good c l k)
    (s1 : StepC c l ⟨11, 0, 0, 0, 400⟩ a1 c1) (g1 : Good c1 l1 (k + 1)) (s2 : StepC c1 l1 ⟨10, 0, 0, 0, 0⟩ a2 c2) (g2 : Good c2 l2 (k + 2)) (s3 : StepC c2 l2 ⟨11, 0, 0, 0, 400⟩ a3 c3) (g3 : Good c3 l3 (k + 3))
    (s4 : StepC c3 l3 ⟨12, 0, 0, 0, 0⟩ a4 c4) (g4 : Good c4 l4 (k + 4)) (s5 : StepC c4 l4 ⟨10, 0, 0, 0, 0⟩ a5 c5) (g5 : Good c5 l5 (k + 5)) (s6 : StepC c5 l5 ⟨11, 0, 0, 0, 400⟩ a6 c6) (g6 : Good c6 l6 (k + 6))
    (s7 : StepC c6 l6 ⟨12, 0, 0, 0, 0⟩ a7 c7) : a7 = a4 ∧ a6 = ⟨0, false, 0, false, 0, false, 0⟩ := by
  have hc1 : Shut c1 ∧ c1.coll.going = false := by
    rcases step400 hg s1 with ⟨h1, _, rfl⟩ | ⟨_, f, _, hf⟩
    · exact ⟨hs, h1⟩
    · exact ⟨hs.finish hf g1.inv, finish_going hf⟩
  obtain ⟨_, rs, zs, hrs, hz, rfl⟩ := (step_collect s2).no (by rw [hc1.2]; decide)
  obtain rfl : l2 = l1 := g2.inv.valid.unique g1.inv.valid
  rcases step400 g2 s3 with ⟨h1, _⟩ | ⟨_, f, _, hf⟩
  · cases h1
  obtain ⟨ht3, hr3⟩ := collected g1.inv hc1.1 hrs hz g2.inv hf g3.inv
  have hg3 := finish_going hf
  obtain ⟨h4, rfl⟩ := step_stat s4
  obtain rfl : l4 = l3 := g4.inv.valid.unique g3.inv.valid
  obtain ⟨_, rs5, zs5, hrs5, hz5, rfl⟩ := (step_collect s5).no (by rw [hg3]; decide)
  obtain rfl : l5 = l4 := g5.inv.valid.unique g4.inv.valid
  obtain rfl : zs5 = nums l5 := by
    obtain ⟨m, rfl, hm⟩ := hz5
    exact List.filter_eq_self.2 fun q hq => (hm q hq).2 (hr3 q hq rs5 hrs5)
  rcases step400 g5 s6 with ⟨h1, _⟩ | ⟨_, f6, h6, qs, m, tx', hk, _, _, hf6, rfl⟩
  · cases h1
  obtain rfl : qs = l5 := by
    apply nums_inj
    rw [← hk]
    unfold keepL
    rw [if_pos rfl]
    have : (nums l5).filter (fun q => decide (c4.top ≤ q)) = [] := List.filter_eq_nil_iff.2 fun q hq => by
      obtain ⟨p, rfl, hp⟩ := nums_mem hq
      have h5 := (g4.inv.place hp).2.2.2.2
      have h7 := g4.inv.valid.top1
      simp
      omega
    simp [this]
  obtain ⟨h7, _⟩ := step_stat s7
  refine ⟨?_, ?_⟩
  · rw [h7, h4, hg3]
    have : ((toAt c4.xs qs qs.length : Nat) : Int) - 1 = c4.top - 1 := by omega
    exact congrArg (fun x => (⟨0, false, 0, false, x, false, 0⟩ : Ans)) this
  · rw [h6, hf6]
    have : c4.top - ((toAt c4.xs qs qs.length : Nat) : Int) = 0 := by omega
    exact congrArg (fun x => (⟨0, false, 0, false, 0, false, x⟩ : Ans)) this
end Go.Proofs.Ytpdcaoagpjcgbac

