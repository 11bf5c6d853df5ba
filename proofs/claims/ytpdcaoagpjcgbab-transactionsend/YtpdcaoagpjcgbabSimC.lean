/-
  Plain mathematics: whole scripts of the machine with addresses, and of the threads without. No program is named here. It proves no statement by itself.
-/
import Derived.Test.YtpdcaoagpjcgbabSimB
import Derived.Test.YtpdcaoagpjcgbabPlA
import Derived.Test.YtpdcaoagpjcgbabAbsA
set_option linter.unusedVariables false
set_option linter.unusedSimpArgs false
namespace Go.Proofs.Ytpdcaoagpjcgbab
open Stm

/-- How many acts make objects. -/
def news (l : List Stm.Act) : Nat := l.countP fun a => a.kind == 4
/-- All objects that are made are small. -/
def Small (l : List Stm.Act) : Prop := ∀ a ∈ l, a.kind = 4 → a.n ≤ 3
theorem news_append (l m : List Stm.Act) : news (l ++ m) = news l + news m := List.countP_append
theorem news_le (l : List Stm.Act) : news l ≤ l.length := List.countP_le_length
theorem Small.append {l m : List Stm.Act} (h1 : Small l) (h2 : Small m) : Small (l ++ m) := fun a ha => (List.mem_append.1 ha).elim (h1 a) (h2 a)

theorem undo_size {c c' : Mc} {t : Nat} (h : CUndo c t c') : c'.xs.length = c.xs.length ∧ c'.top = c.top := by
  obtain ⟨ys, hy, rfl⟩ := h
  exact ⟨hy.len, rfl⟩
theorem CAcc.size {c c' : Mc} {l : List Nat} {t : Nat} {v : Val} {n : Int} {r : Ans} {g : Prop} (h : CAcc c l t v n r c' g) (hg : g → c'.xs.length = c.xs.length ∧ c'.top = c.top) : c'.xs.length = c.xs.length ∧ c'.top = c.top := by
  by_cases h1 : (c.tx t).isOpen = true
  · have h := h.yes h1
    by_cases h2 : v.k = 1 ∧ v.n ≠ 0
    · have h := h.yes h2
      by_cases h3 : v.n ∈ nums l ∧ 0 ≤ n ∧ n < c.xs.getD (v.n.toNat + 1) 0
      · have h := h.yes h3
        by_cases h4 : Owned c.xs t v.n
        · exact undo_size (h.yes h4).2
        · exact hg (h.no h4)
      · rw [(h.no h3).2]; exact ⟨rfl, rfl⟩
    · rw [(h.no h2).2]; exact ⟨rfl, rfl⟩
  · rw [(h.no h1).2]; exact ⟨rfl, rfl⟩
theorem CFinish.size {c c' : Mc} {l l' : List Nat} {k k' : Nat} {f : Int} (hi : Inv c l k) (hg : c.coll.going = true) (hf : CFinish c l f c') (hi' : Inv c' l' k') : c'.xs.length = c.xs.length ∧ c'.top ≤ c.top := by
  obtain ⟨qs, m, tx', hkq, hd, htx, _, rfl⟩ := hf
  obtain ⟨qs', hkq', hkept, hclosed⟩ := hi.kept hg
  obtain rfl := nums_inj (hkq.symm.trans hkq')
  have hv := hi.valid
  have hroom := Room.of hv.objects hkept
  have v1 := hv.top1
  have v2 := hv.top2
  refine ⟨hroom.built_length (by omega) (by omega) rfl m (Nat.le_refl _), ?_⟩
  have := hroom.end_le (by omega) qs.length (Nat.le_refl _)
  dsimp only
  omega

/-- What an act may do to the words that are used. -/
theorem step_size {c c' : Mc} {l l' : List Nat} {k : Nat} {a : Stm.Act} {r : Ans} (hg : Good c l k) (hs : StepC c l a r c') (hg' : Good c' l' (k + 1)) (ha : a.kind = 4 → a.n ≤ 3) : c'.xs.length = c.xs.length ∧ c'.top ≤ c.top + (if a.kind = 4 then 5 else 0) := by
  have weak : c'.xs.length = c.xs.length ∧ c'.top = c.top → c'.xs.length = c.xs.length ∧ c'.top ≤ c.top + (if a.kind = 4 then 5 else 0) := fun h => ⟨h.1, by rw [h.2]; split <;> omega⟩
  have same : c' = c → c'.xs.length = c.xs.length ∧ c'.top ≤ c.top + (if a.kind = 4 then 5 else 0) := fun h => weak (by rw [h]; exact ⟨rfl, rfl⟩)
  by_cases h0 : firstErr a = 0
  · have hs := hs.yes h0
    by_cases h1 : a.kind = 1
    · have hs := hs.yes h1
      by_cases ho : (c.tx a.t.toNat).isOpen = true
      · exact same (hs.yes ho).2
      · exact weak (by rw [(hs.no ho).2]; exact ⟨rfl, rfl⟩)
    have hs := hs.no h1
    by_cases h2 : a.kind = 2
    · have hs := hs.yes h2
      by_cases ho : (c.tx a.t.toNat).isOpen = true
      · have hs := hs.yes ho
        by_cases hh : Holds c a.t.toNat
        · obtain ⟨_, ys, hy, rfl⟩ := hs.yes hh
          exact weak ⟨hy.len, rfl⟩
        · exact weak (undo_size (hs.no hh).2)
      · exact same (hs.no ho).2
    have hs := hs.no h2
    by_cases h3 : a.kind = 3
    · have hs := hs.yes h3
      by_cases ho : (c.tx a.t.toNat).isOpen = true
      · exact weak (undo_size (hs.yes ho).2)
      · exact same (hs.no ho).2
    have hs := hs.no h3
    by_cases h4 : a.kind = 4
    · have hs := hs.yes h4
      by_cases ho : (c.tx a.t.toNat).isOpen = true
      · have hs := hs.yes ho
        by_cases hn : 0 ≤ a.n ∧ a.n ≤ 6
        · have hs := hs.yes hn
          by_cases hf : 2 + a.n ≤ c.xs.length - c.top
          · have := ha h4
            rw [(hs.yes hf).2, if_pos h4]
            dsimp only
            exact ⟨List.length_set, by omega⟩
          · exact same (hs.no hf).2
        · exact same (hs.no hn).2
      · exact same (hs.no ho).2
    have hs := hs.no h4
    by_cases h5 : a.kind = 5
    · exact weak (CAcc.size (hs.yes h5) (fun h => by rw [h.2]; exact ⟨rfl, rfl⟩))
    have hs := hs.no h5
    by_cases h6 : a.kind = 6
    · refine weak (CAcc.size (hs.yes h6) (fun h => ?_))
      rw [h.2]
      refine ⟨?_, rfl⟩
      show ((ownXs c _ _).set _ _).length = _
      rw [List.length_set]
      unfold ownXs
      split
      · rw [List.length_set]
      · rfl
    have hs := hs.no h6
    by_cases h7 : a.kind = 7
    · have hs := hs.yes h7
      by_cases hn : -1099511627776 ≤ a.n ∧ a.n ≤ 1099511627776
      · exact weak (by rw [(hs.yes hn).2]; exact ⟨rfl, rfl⟩)
      · exact same (hs.no hn).2
    have hs := hs.no h7
    by_cases h8 : a.kind = 8
    · have hs := hs.yes h8
      by_cases hn : a.n.toNat ≠ a.t.toNat ∧ ((c.tx a.t.toNat).isOpen = true ∨ (c.tx a.n.toNat).isOpen = true)
      · exact same (hs.yes hn).2
      · exact weak (by rw [(hs.no hn).2]; exact ⟨rfl, rfl⟩)
    have hs := hs.no h8
    by_cases h9 : a.kind = 9
    · exact same (hs.yes h9).2
    have hs := hs.no h9
    by_cases h10 : a.kind = 10
    · have hs := hs.yes h10
      by_cases hgo : c.coll.going = true
      · exact same (hs.yes hgo).2
      · obtain ⟨_, rs, zs, _, _, rfl⟩ := hs.no hgo
        exact weak ⟨rfl, rfl⟩
    have hs := hs.no h10
    by_cases h11 : a.kind = 11
    · have hs := hs.yes h11
      by_cases hn : 1 ≤ a.n ∧ a.n ≤ 400
      · have hs := hs.yes hn
        by_cases hgo : c.coll.going = true
        · have hs := hs.yes hgo
          by_cases hlt : 0 < c.coll.left - a.n
          · obtain ⟨_, rfl⟩ := hs.yes hlt
            exact weak ⟨rfl, rfl⟩
          · obtain ⟨f, _, hf⟩ := hs.no hlt
            have := CFinish.size hg.inv hgo hf hg'.inv
            exact ⟨this.1, by have := this.2; split <;> omega⟩
        · exact same (hs.no hgo).2
      · exact same (hs.no hn).2
    have hs := hs.no h11
    exact same hs.2
  · exact same (hs.no h0).2

theorem Sim.init (n : Nat) : Sim (Mc.init n) [] AS.init (fun _ => none) :=
  ⟨fun p i h => (by cases h), fun p q i h => (by cases h), fun p i h => (by cases h), fun t => ⟨fun r => VR.zero _, fun _ => rfl, fun d h => (by cases h)⟩, fun p i h => (by cases h)⟩

theorem sim_run {l : List Stm.Act} {rs : List Ans} {c : Mc} {lf : List Nat} (h : RunC 400 l rs c lf) : l.length ≤ 400 → Small l → news l ≤ 79 → (∃ s nm, RunA AS.init l rs s ∧ Wf s ∧ Sim c lf s nm) ∧ c.xs.length = 400 ∧ c.top ≤ 1 + 5 * (news l : Int) := by
  induction h with
  | nil => exact fun _ _ _ => ⟨⟨AS.init, fun _ => none, ⟨rfl, rfl⟩, Wf.init, Sim.init 400⟩, List.length_replicate, by show (1 : Int) ≤ 1 + 5 * ((0 : Nat) : Int); omega⟩
  | @snoc l rs c lf a r c1 lf1 h hs hg ih =>
    intro hl hsm hn
    rw [List.length_append] at hl
    have hl' : l.length < 400 := by simp at hl; omega
    rw [news_append] at hn
    obtain ⟨⟨s, nm, h1, h2, h3⟩, h4, h5⟩ := ih (by omega) (fun b hb => hsm b (List.mem_append.2 (.inl hb))) (by omega)
    have hg0 := h.good (by omega) (by omega)
    have ha : a.kind = 4 → a.n ≤ 3 := hsm a (by simp)
    have hone : news [a] = if a.kind = 4 then 1 else 0 := by simp [news]
    have hsz := step_size hg0 hs hg ha
    obtain ⟨s', nm', g1, g2⟩ := h3.step h2 hg0 hl' hs hg (fun hk _ _ => by
      have := ha hk
      rw [hone, if_pos hk] at hn
      omega)
    refine ⟨⟨s', nm', h1.append (RunA.one g1), h2.step g1, g2⟩, by rw [hsz.1]; exact h4, ?_⟩
    rw [news_append, hone]
    have := hsz.2
    by_cases hk : a.kind = 4
    · rw [if_pos hk] at this ⊢; omega
    · rw [if_neg hk] at this ⊢; omega

/-- The answers to acts that are not of a collection. -/
def pickA (l : List Stm.Act) (rs : List Ans) : List Ans := ((l.zip rs).filter fun p => !isCl p.1).map Prod.snd
theorem isCl_iff (a : Stm.Act) : isCl a = true ↔ Stm.Clean a := by
  unfold isCl Stm.Clean
  simp
theorem runA_plain {l : List Stm.Act} : ∀ {s s' : AS} {rs : List Ans}, RunA s l rs s' → RunA s (plainOf l) (pickA l rs) s' := by
  induction l with
  | nil => intro s s' rs h; obtain ⟨rfl, rfl⟩ := h; exact ⟨rfl, rfl⟩
  | cons a l ih =>
    intro s s' rs h
    obtain ⟨r, rs1, s1, rfl, h1, h2⟩ := h
    have h3 := ih h2
    cases hc : isCl a with
    | true =>
      have e1 : plainOf (a :: l) = plainOf l := by simp [plainOf, List.filter_cons, hc]
      have e2 : pickA (a :: l) (r :: rs1) = pickA l rs1 := by simp [pickA, List.filter_cons, hc]
      rw [e1, e2]
      have := (StepA.clean ((isCl_iff a).1 hc)).1 h1
      subst this
      exact h3
    | false =>
      have e1 : plainOf (a :: l) = a :: plainOf l := by simp [plainOf, List.filter_cons, hc]
      have e2 : pickA (a :: l) (r :: rs1) = r :: pickA l rs1 := by simp [pickA, List.filter_cons, hc]
      rw [e1, e2]
      exact ⟨r, _, s1, rfl, h1, h3⟩
theorem plainOf_plain {l : List Stm.Act} {a : Stm.Act} (h : a ∈ plainOf l) : ¬ Stm.Clean a := fun hc => by
  have := (List.mem_filter.1 h).2
  rw [(isCl_iff a).2 hc] at this
  cases this
theorem plainOf_sub {l : List Stm.Act} {a : Stm.Act} (h : a ∈ plainOf l) : a ∈ l := (List.mem_filter.1 h).1
theorem Small.plain {l : List Stm.Act} (h : Small l) : Small (plainOf l) := fun a ha => h a (plainOf_sub ha)
theorem plainOf_length (l : List Stm.Act) : (plainOf l).length ≤ l.length := List.length_filter_le _ _
theorem news_plain (l : List Stm.Act) : news (plainOf l) ≤ news l := by
  unfold news plainOf
  rw [List.countP_filter]
  exact List.countP_mono_left fun a _ h => by simp at h; simp [h.1]

/-- A collection never changes what threads read. -/
theorem collected_same {l : List Stm.Act} {xs ys : List Ans} {c c2 : Mc} {lf lf2 : List Nat} (h1 : RunC 400 l xs c lf) (h2 : RunC 400 (plainOf l) ys c2 lf2) (hl : l.length ≤ 400) (hs : Small l) (hn : news l ≤ 79) : pickA l xs = ys := by
  obtain ⟨⟨s, nm, g1, _, _⟩, _⟩ := sim_run h1 hl hs hn
  obtain ⟨⟨s2, nm2, g2, _, _⟩, _⟩ := sim_run h2 (Nat.le_trans (plainOf_length l) hl) hs.plain (Nat.le_trans (news_plain l) hn)
  exact (RunA.det (fun a ha => plainOf_plain ha) (runA_plain g1) g2).1
end Go.Proofs.Ytpdcaoagpjcgbab

/-
  Plain mathematics: the script of limewashkeep.TransactionsEnd. It proves no statement by itself.
-/
namespace Go.Proofs.Ytpdcaoagpjcgbab
open Stm

def endActs (e k : Int) : List Stm.Act := [⟨7, 0, 1, 0, 7⟩, ⟨1, 0, 0, 0, 0⟩, ⟨4, 0, 0, 0, 1⟩, ⟨6, 0, 0, 1, 0⟩, ⟨2, 0, 0, 0, 0⟩, ⟨1, 0, 0, 0, 0⟩, ⟨7, 0, 1, 0, k⟩, ⟨6, 0, 0, 1, 0⟩, ⟨e, 0, 0, 0, 0⟩, ⟨1, 0, 0, 0, 0⟩, ⟨5, 0, 2, 0, 0⟩]

/-- Begin, set a register, and put it into the object: the store holds one number there. -/
theorem end_mid {S : AS} {k v : Int} (hk : 0 ≤ k ∧ k < 1000) (hc : ∀ u, (S.th u).tx = none) (hr : (S.th 0).regs 0 = .inr (0, 0)) (hst : S.store (0, 0) = [.inl v]) :
    ∃ x d, RunA S [⟨1, 0, 0, 0, 0⟩, ⟨7, 0, 1, 0, k⟩, ⟨6, 0, 0, 1, 0⟩] [.ok, .num k, .ok] (setTh S 0 x) ∧ x.tx = some d ∧ ¬ d.stale ∧ (∀ i, ¬ d.reads i) ∧ d.over (0, 0) = some [.inl k] ∧ d.saved = (S.th 0).regs ∧ d.cnt0 = (S.th 0).cnt ∧ x.regs 0 = .inr (0, 0) := by
  have h1 : Stm.RunT S.store 0 (S.th 0) [(⟨1, 0, 0, 0, 0⟩, .ok), (⟨7, 0, 1, 0, k⟩, .num k), (⟨6, 0, 0, 1, 0⟩, .ok)] (putT S.store (setReg (beginT (S.th 0)) 1 (.inl k)) ⟨(S.th 0).regs, (S.th 0).cnt, fun _ => False, fun _ => none, False⟩ 1 (0, 0) 0) := by
    refine ⟨beginT (S.th 0), by decide, rfl, .begin rfl (hc 0), setReg (beginT (S.th 0)) 1 (.inl k), by simp [firstErr, In4, usesA, usesB], rfl, .set rfl (by dsimp only; omega), _, by decide, rfl, .put rfl rfl ?_ ?_, rfl⟩
    · show upd (S.th 0).regs 1 (.inl k) 0 = _
      rw [upd_other _ _ (by decide)]
      exact hr
    · show (0 : Int) ≤ 0 ∧ (0 : Int) < ((S.store (0, 0)).length : Int)
      rw [hst]
      simp
  have h2 := h1.runA (fun u _ => hc u)
  refine ⟨_, _, h2, rfl, fun h => h, fun i h => h, ?_, rfl, rfl, ?_⟩
  · show updI (fun _ => none) (0, 0) (some ((S.store (0, 0)).set 0 (upd (S.th 0).regs 1 (.inl k) 1))) (0, 0) = _
    rw [updI_same, hst, upd_same]
    rfl
  · show upd (S.th 0).regs 1 (.inl k) 0 = _
    rw [upd_other _ _ (by decide)]
    exact hr
/-- Begin and read. -/
theorem end_read {S : AS} {v : Int} (hc : ∀ u, (S.th u).tx = none) (hr : (S.th 0).regs 0 = .inr (0, 0)) (hst : S.store (0, 0) = [.inl v]) :
    ∃ x, RunA S [⟨1, 0, 0, 0, 0⟩, ⟨5, 0, 2, 0, 0⟩] [.ok, .num v] (setTh S 0 x) := by
  have h1 : Stm.RunT S.store 0 (S.th 0) [(⟨1, 0, 0, 0, 0⟩, .ok), (⟨5, 0, 2, 0, 0⟩, told ((S.store (0, 0)).getD 0 (.inl 0)))] (getT S.store (beginT (S.th 0)) ⟨(S.th 0).regs, (S.th 0).cnt, fun _ => False, fun _ => none, False⟩ 2 (0, 0) 0) := by
    have hg : OneT S.store 0 (beginT (S.th 0)) ⟨5, 0, 2, 0, 0⟩ _ _ := OneT.get (d := ⟨(S.th 0).regs, (S.th 0).cnt, fun _ => False, fun _ => none, False⟩) (i := (0, 0)) rfl rfl hr (by
      show (0 : Int) ≤ 0 ∧ (0 : Int) < ((S.store (0, 0)).length : Int)
      rw [hst]
      simp)
    exact ⟨beginT (S.th 0), by decide, rfl, .begin rfl (hc 0), _, by show firstErr ⟨5, 0, 2, 0, 0⟩ = 0; decide, rfl, hg, rfl⟩
  rw [hst] at h1
  exact ⟨_, h1.runA (fun u _ => hc u)⟩
/-- A commit of a thread when no other has a transaction. -/
theorem end_commit {S : AS} {x : TS} {d : ATx} (hc : ∀ u, u ≠ 0 → (S.th u).tx = none) (hx : x.tx = some d) (hs : ¬ d.stale) (hr : ∀ i, ¬ d.reads i) : RunA (setTh S 0 x) [⟨2, 0, 0, 0, 0⟩] [.ok] (committed (setTh S 0 x) 0 d) ∧ (∀ u, ((committed (setTh S 0 x) 0 d).th u).tx = none) ∧ ((committed (setTh S 0 x) 0 d).th 0).regs = x.regs ∧ (committed (setTh S 0 x) 0 d).store = fun i => (d.over i).getD (S.store i) := by
  refine ⟨RunA.one (stepA2 (by decide) rfl ?_), fun u => ?_, ?_, rfl⟩
  · show CommitA (setTh S 0 x) 0 _ _
    unfold CommitA
    rw [setTh_th, hx]
    exact Ite.neg (fun h => h.elim hs (fun ⟨i, h, _⟩ => hr i h)) ⟨rfl, rfl⟩
  · by_cases e : u = 0
    · subst e; simp [committed]
    · have : (committed (setTh S 0 x) 0 d).th u = markT d.over ((setTh S 0 x).th u) := by simp [committed, e]
      rw [this, setTh_other _ _ e]
      unfold markT
      rw [hc u e]
      rfl
  · show ((committed (setTh S 0 x) 0 d).th 0).regs = _
    simp [committed, setTh_th]

theorem end_all {e k : Int} (he : e = 2 ∨ e = 3) (hk : 0 ≤ k ∧ k < 1000) {rs : List Ans} {c : Mc} {lf : List Nat} (h : RunC 400 (endActs e k) rs c lf) : rs[10]? = some (.num (if e = 2 then k else 7)) := by
  have hnc : ∀ a ∈ endActs e k, ¬ Stm.Clean a := by
    intro a ha
    simp [endActs] at ha
    unfold Stm.Clean
    rcases ha with rfl | rfl | rfl | rfl | rfl | rfl | rfl | rfl | rfl | rfl | rfl <;> (dsimp only; omega)
  have hsm : Small (endActs e k) := by
    intro a ha
    simp [endActs] at ha
    rcases ha with rfl | rfl | rfl | rfl | rfl | rfl | rfl | rfl | rfl | rfl | rfl <;> (dsimp only; omega)
  obtain ⟨⟨s, nm, hA, _, _⟩, _⟩ := sim_run h (by simp [endActs]) hsm (Nat.le_trans (news_le _) (by simp [endActs]))
  -- the first four acts, and the commit
  obtain ⟨x1, d1, a1, hx1, hs1, hr1, ho1, hg1⟩ : ∃ x1 d1, Stm.RunT AS.init.store 0 (AS.init.th 0) [(⟨7, 0, 1, 0, 7⟩, .num 7), (⟨1, 0, 0, 0, 0⟩, .ok), (⟨4, 0, 0, 0, 1⟩, .ok), (⟨6, 0, 0, 1, 0⟩, .ok)] x1 ∧ x1.tx = some d1 ∧ ¬ d1.stale ∧ (∀ i, ¬ d1.reads i) ∧ d1.over (0, 0) = some [.inl 7] ∧ x1.regs 0 = .inr (0, 0) := by
    refine ⟨_, _, ⟨_, by decide, rfl, .set rfl (by decide), _, by decide, rfl, .begin rfl rfl, _, by decide, rfl, .new rfl rfl (by decide), _, by decide, rfl, .put (i := (0, 0)) rfl rfl rfl (by decide), rfl⟩, rfl, fun h => h, fun i h => h, rfl, rfl⟩
  have b1 := a1.runA (S := AS.init) (fun u _ => rfl)
  obtain ⟨b2, c2, r2, s2⟩ := end_commit (S := AS.init) (fun u _ => rfl) hx1 hs1 hr1
  have m1 : RunA AS.init [⟨7, 0, 1, 0, 7⟩, ⟨1, 0, 0, 0, 0⟩, ⟨4, 0, 0, 0, 1⟩, ⟨6, 0, 0, 1, 0⟩, ⟨2, 0, 0, 0, 0⟩] [.num 7, .ok, .ok, .ok, .ok] _ := b1.append b2
  generalize hS : committed (setTh AS.init 0 x1) 0 d1 = S2 at m1 c2 r2 s2
  have hr2 : (S2.th 0).regs 0 = .inr (0, 0) := by rw [r2]; exact hg1
  have hst2 : S2.store (0, 0) = [.inl 7] := by rw [s2]; show (d1.over (0, 0)).getD _ = _; rw [ho1]; rfl
  obtain ⟨x, d, m2, hx, hd1, hd2, hd3, hd4, hd5, hd6⟩ := end_mid hk c2 hr2 hst2
  rcases he with rfl | rfl
  · obtain ⟨b3, c3, r3, s3⟩ := end_commit (S := S2) (fun u _ => c2 u) hx hd1 hd2
    obtain ⟨y, m3⟩ := end_read (v := k) c3 (by rw [r3]; exact hd6) (by rw [s3]; show (d.over (0, 0)).getD _ = _; rw [hd3]; rfl)
    have hall : RunA AS.init (endActs 2 k) _ _ := ((m1.append m2).append b3).append m3
    rw [(RunA.det hnc hA hall).1]
    rfl
  · have b3 : RunA (setTh S2 0 x) [⟨3, 0, 0, 0, 0⟩] [.ok] (setTh (setTh S2 0 x) 0 (undoT d)) := by
      refine RunA.one (stepA3 (by decide) rfl ?_)
      show AbortA (setTh S2 0 x) 0 _ _
      unfold AbortA
      rw [setTh_th, hx]
      exact ⟨rfl, rfl⟩
    obtain ⟨y, m3⟩ := end_read (S := setTh (setTh S2 0 x) 0 (undoT d)) (v := 7) (fun u => by
      by_cases e : u = 0
      · subst e; rw [setTh_th]; rfl
      · rw [setTh_other _ _ e, setTh_other _ _ e]; exact c2 u) (by rw [setTh_th]; show d.saved 0 = _; rw [hd4]; exact hr2) hst2
    have hall : RunA AS.init (endActs 3 k) _ _ := ((m1.append m2).append b3).append m3
    rw [(RunA.det hnc hA hall).1]
    rfl
end Go.Proofs.Ytpdcaoagpjcgbab

