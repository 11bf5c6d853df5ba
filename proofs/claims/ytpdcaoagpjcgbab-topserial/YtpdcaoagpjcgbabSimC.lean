/-
  Plain mathematics: whole scripts of the machine with addresses, and of the threads without. No program is named here. It proves no statement by itself.
-/
import Derived.Test.YtpdcaoagpjcgbabSimB
import Derived.Test.YtpdcaoagpjcgbabPlA
import Derived.Test.YtpdcaoagpjcgbabAbsA
import Derived.Test.YtpdcaoagpjcgbabFreeA
set_option linter.unusedVariables false
set_option linter.unusedSimpArgs false
namespace Go.Proofs.Ytpdcaoagpjcgbab
open Stm

/-- How many acts make objects. -/
def news (l : List Stm.Act) : Nat := l.countP fun a => a.kind == 4
/-- All objects that are made are small. -/
def Small (l : List Stm.Act) : Prop := ∀ a ∈ l, a.kind = 4 → a.n ≤ 3
theorem news_append (l m : List Stm.Act) : news (l ++ m) = news l + news m := List.countP_append
theorem news_le (l : List Stm.Act) : news l ≤ l.length := List.countP_le_length
theorem Small.append {l m : List Stm.Act} (h1 : Small l) (h2 : Small m) : Small (l ++ m) := fun a ha => (List.mem_append.1 ha).elim (h1 a) (h2 a)

theorem undo_size {c c' : Mc} {t : Nat} (h : CUndo c t c') : c'.xs.length = c.xs.length ∧ c'.top = c.top := by
  obtain ⟨ys, hy, rfl⟩ := h
  exact ⟨hy.len, rfl⟩
theorem CAcc.size {c c' : Mc} {l : List Nat} {t : Nat} {v : Val} {n : Int} {r : Ans} {g : Prop} (h : CAcc c l t v n r c' g) (hg : g → c'.xs.length = c.xs.length ∧ c'.top = c.top) : c'.xs.length = c.xs.length ∧ c'.top = c.top := by
  by_cases h1 : (c.tx t).isOpen = true
  · have h := h.yes h1
    by_cases h2 : v.k = 1 ∧ v.n ≠ 0
    · have h := h.yes h2
      by_cases h3 : v.n ∈ nums l ∧ 0 ≤ n ∧ n < c.xs.getD (v.n.toNat + 1) 0
      · have h := h.yes h3
        by_cases h4 : Owned c.xs t v.n
        · exact undo_size (h.yes h4).2
        · exact hg (h.no h4)
      · rw [(h.no h3).2]; exact ⟨rfl, rfl⟩
    · rw [(h.no h2).2]; exact ⟨rfl, rfl⟩
  · rw [(h.no h1).2]; exact ⟨rfl, rfl⟩
theorem CFinish.size {c c' : Mc} {l l' : List Nat} {k k' : Nat} {f : Int} (hi : Inv c l k) (hg : c.coll.going = true) (hf : CFinish c l f c') (hi' : Inv c' l' k') : c'.xs.length = c.xs.length ∧ c'.top ≤ c.top := by
  obtain ⟨qs, m, tx', hkq, hd, htx, _, rfl⟩ := hf
  obtain ⟨qs', hkq', hkept, hclosed⟩ := hi.kept hg
  obtain rfl := nums_inj (hkq.symm.trans hkq')
  have hv := hi.valid
  have hroom := Room.of hv.objects hkept
  have v1 := hv.top1
  have v2 := hv.top2
  refine ⟨hroom.built_length (by omega) (by omega) rfl m (Nat.le_refl _), ?_⟩
  have := hroom.end_le (by omega) qs.length (Nat.le_refl _)
  dsimp only
  omega

/-- What an act may do to the words that are used. -/
theorem step_size {c c' : Mc} {l l' : List Nat} {k : Nat} {a : Stm.Act} {r : Ans} (hg : Good c l k) (hs : StepC c l a r c') (hg' : Good c' l' (k + 1)) (ha : a.kind = 4 → a.n ≤ 3) : c'.xs.length = c.xs.length ∧ c'.top ≤ c.top + (if a.kind = 4 then 5 else 0) := by
  have weak : c'.xs.length = c.xs.length ∧ c'.top = c.top → c'.xs.length = c.xs.length ∧ c'.top ≤ c.top + (if a.kind = 4 then 5 else 0) := fun h => ⟨h.1, by rw [h.2]; split <;> omega⟩
  have same : c' = c → c'.xs.length = c.xs.length ∧ c'.top ≤ c.top + (if a.kind = 4 then 5 else 0) := fun h => weak (by rw [h]; exact ⟨rfl, rfl⟩)
  by_cases h0 : firstErr a = 0
  · have hs := hs.yes h0
    by_cases h1 : a.kind = 1
    · have hs := hs.yes h1
      by_cases ho : (c.tx a.t.toNat).isOpen = true
      · exact same (hs.yes ho).2
      · exact weak (by rw [(hs.no ho).2]; exact ⟨rfl, rfl⟩)
    have hs := hs.no h1
    by_cases h2 : a.kind = 2
    · have hs := hs.yes h2
      by_cases ho : (c.tx a.t.toNat).isOpen = true
      · have hs := hs.yes ho
        by_cases hh : Holds c a.t.toNat
        · obtain ⟨_, ys, hy, rfl⟩ := hs.yes hh
          exact weak ⟨hy.len, rfl⟩
        · exact weak (undo_size (hs.no hh).2)
      · exact same (hs.no ho).2
    have hs := hs.no h2
    by_cases h3 : a.kind = 3
    · have hs := hs.yes h3
      by_cases ho : (c.tx a.t.toNat).isOpen = true
      · exact weak (undo_size (hs.yes ho).2)
      · exact same (hs.no ho).2
    have hs := hs.no h3
    by_cases h4 : a.kind = 4
    · have hs := hs.yes h4
      by_cases ho : (c.tx a.t.toNat).isOpen = true
      · have hs := hs.yes ho
        by_cases hn : 0 ≤ a.n ∧ a.n ≤ 6
        · have hs := hs.yes hn
          by_cases hf : 2 + a.n ≤ c.xs.length - c.top
          · have := ha h4
            rw [(hs.yes hf).2, if_pos h4]
            dsimp only
            exact ⟨List.length_set, by omega⟩
          · exact same (hs.no hf).2
        · exact same (hs.no hn).2
      · exact same (hs.no ho).2
    have hs := hs.no h4
    by_cases h5 : a.kind = 5
    · exact weak (CAcc.size (hs.yes h5) (fun h => by rw [h.2]; exact ⟨rfl, rfl⟩))
    have hs := hs.no h5
    by_cases h6 : a.kind = 6
    · refine weak (CAcc.size (hs.yes h6) (fun h => ?_))
      rw [h.2]
      refine ⟨?_, rfl⟩
      show ((ownXs c _ _).set _ _).length = _
      rw [List.length_set]
      unfold ownXs
      split
      · rw [List.length_set]
      · rfl
    have hs := hs.no h6
    by_cases h7 : a.kind = 7
    · have hs := hs.yes h7
      by_cases hn : -1099511627776 ≤ a.n ∧ a.n ≤ 1099511627776
      · exact weak (by rw [(hs.yes hn).2]; exact ⟨rfl, rfl⟩)
      · exact same (hs.no hn).2
    have hs := hs.no h7
    by_cases h8 : a.kind = 8
    · have hs := hs.yes h8
      by_cases hn : a.n.toNat ≠ a.t.toNat ∧ ((c.tx a.t.toNat).isOpen = true ∨ (c.tx a.n.toNat).isOpen = true)
      · exact same (hs.yes hn).2
      · exact weak (by rw [(hs.no hn).2]; exact ⟨rfl, rfl⟩)
    have hs := hs.no h8
    by_cases h9 : a.kind = 9
    · exact same (hs.yes h9).2
    have hs := hs.no h9
    by_cases h10 : a.kind = 10
    · have hs := hs.yes h10
      by_cases hgo : c.coll.going = true
      · exact same (hs.yes hgo).2
      · obtain ⟨_, rs, zs, _, _, rfl⟩ := hs.no hgo
        exact weak ⟨rfl, rfl⟩
    have hs := hs.no h10
    by_cases h11 : a.kind = 11
    · have hs := hs.yes h11
      by_cases hn : 1 ≤ a.n ∧ a.n ≤ 400
      · have hs := hs.yes hn
        by_cases hgo : c.coll.going = true
        · have hs := hs.yes hgo
          by_cases hlt : 0 < c.coll.left - a.n
          · obtain ⟨_, rfl⟩ := hs.yes hlt
            exact weak ⟨rfl, rfl⟩
          · obtain ⟨f, _, hf⟩ := hs.no hlt
            have := CFinish.size hg.inv hgo hf hg'.inv
            exact ⟨this.1, by have := this.2; split <;> omega⟩
        · exact same (hs.no hgo).2
      · exact same (hs.no hn).2
    have hs := hs.no h11
    exact same hs.2
  · exact same (hs.no h0).2

theorem Sim.init (n : Nat) : Sim (Mc.init n) [] AS.init (fun _ => none) :=
  ⟨fun p i h => (by cases h), fun p q i h => (by cases h), fun p i h => (by cases h), fun t => ⟨fun r => VR.zero _, fun _ => rfl, fun d h => (by cases h)⟩, fun p i h => (by cases h)⟩

theorem sim_run {l : List Stm.Act} {rs : List Ans} {c : Mc} {lf : List Nat} (h : RunC 400 l rs c lf) : l.length ≤ 400 → Small l → news l ≤ 79 → (∃ s nm, RunA AS.init l rs s ∧ Wf s ∧ Sim c lf s nm) ∧ c.xs.length = 400 ∧ c.top ≤ 1 + 5 * (news l : Int) := by
  induction h with
  | nil => exact fun _ _ _ => ⟨⟨AS.init, fun _ => none, ⟨rfl, rfl⟩, Wf.init, Sim.init 400⟩, List.length_replicate, by show (1 : Int) ≤ 1 + 5 * ((0 : Nat) : Int); omega⟩
  | @snoc l rs c lf a r c1 lf1 h hs hg ih =>
    intro hl hsm hn
    rw [List.length_append] at hl
    have hl' : l.length < 400 := by simp at hl; omega
    rw [news_append] at hn
    obtain ⟨⟨s, nm, h1, h2, h3⟩, h4, h5⟩ := ih (by omega) (fun b hb => hsm b (List.mem_append.2 (.inl hb))) (by omega)
    have hg0 := h.good (by omega) (by omega)
    have ha : a.kind = 4 → a.n ≤ 3 := hsm a (by simp)
    have hone : news [a] = if a.kind = 4 then 1 else 0 := by simp [news]
    have hsz := step_size hg0 hs hg ha
    obtain ⟨s', nm', g1, g2⟩ := h3.step h2 hg0 hl' hs hg (fun hk _ _ => by
      have := ha hk
      rw [hone, if_pos hk] at hn
      omega)
    refine ⟨⟨s', nm', h1.append (RunA.one g1), h2.step g1, g2⟩, by rw [hsz.1]; exact h4, ?_⟩
    rw [news_append, hone]
    have := hsz.2
    by_cases hk : a.kind = 4
    · rw [if_pos hk] at this ⊢; omega
    · rw [if_neg hk] at this ⊢; omega

/-- The answers to acts that are not of a collection. -/
def pickA (l : List Stm.Act) (rs : List Ans) : List Ans := ((l.zip rs).filter fun p => !isCl p.1).map Prod.snd
theorem isCl_iff (a : Stm.Act) : isCl a = true ↔ Stm.Clean a := by
  unfold isCl Stm.Clean
  simp
theorem runA_plain {l : List Stm.Act} : ∀ {s s' : AS} {rs : List Ans}, RunA s l rs s' → RunA s (plainOf l) (pickA l rs) s' := by
  induction l with
  | nil => intro s s' rs h; obtain ⟨rfl, rfl⟩ := h; exact ⟨rfl, rfl⟩
  | cons a l ih =>
    intro s s' rs h
    obtain ⟨r, rs1, s1, rfl, h1, h2⟩ := h
    have h3 := ih h2
    cases hc : isCl a with
    | true =>
      have e1 : plainOf (a :: l) = plainOf l := by simp [plainOf, List.filter_cons, hc]
      have e2 : pickA (a :: l) (r :: rs1) = pickA l rs1 := by simp [pickA, List.filter_cons, hc]
      rw [e1, e2]
      have := (StepA.clean ((isCl_iff a).1 hc)).1 h1
      subst this
      exact h3
    | false =>
      have e1 : plainOf (a :: l) = a :: plainOf l := by simp [plainOf, List.filter_cons, hc]
      have e2 : pickA (a :: l) (r :: rs1) = r :: pickA l rs1 := by simp [pickA, List.filter_cons, hc]
      rw [e1, e2]
      exact ⟨r, _, s1, rfl, h1, h3⟩
theorem plainOf_plain {l : List Stm.Act} {a : Stm.Act} (h : a ∈ plainOf l) : ¬ Stm.Clean a := fun hc => by
  have := (List.mem_filter.1 h).2
  rw [(isCl_iff a).2 hc] at this
  cases this
theorem plainOf_sub {l : List Stm.Act} {a : Stm.Act} (h : a ∈ plainOf l) : a ∈ l := (List.mem_filter.1 h).1
theorem Small.plain {l : List Stm.Act} (h : Small l) : Small (plainOf l) := fun a ha => h a (plainOf_sub ha)
theorem plainOf_length (l : List Stm.Act) : (plainOf l).length ≤ l.length := List.length_filter_le _ _
theorem news_plain (l : List Stm.Act) : news (plainOf l) ≤ news l := by
  unfold news plainOf
  rw [List.countP_filter]
  exact List.countP_mono_left fun a _ h => by simp at h; simp [h.1]

/-- A collection never changes what threads read. -/
theorem collected_same {l : List Stm.Act} {xs ys : List Ans} {c c2 : Mc} {lf lf2 : List Nat} (h1 : RunC 400 l xs c lf) (h2 : RunC 400 (plainOf l) ys c2 lf2) (hl : l.length ≤ 400) (hs : Small l) (hn : news l ≤ 79) : pickA l xs = ys := by
  obtain ⟨⟨s, nm, g1, _, _⟩, _⟩ := sim_run h1 hl hs hn
  obtain ⟨⟨s2, nm2, g2, _, _⟩, _⟩ := sim_run h2 (Nat.le_trans (plainOf_length l) hl) hs.plain (Nat.le_trans (news_plain l) hn)
  exact (RunA.det (fun a ha => plainOf_plain ha) (runA_plain g1) g2).1
end Go.Proofs.Ytpdcaoagpjcgbab

/-
  Plain mathematics: the objects that the laws' scripts make are small. It proves no statement by itself.
-/
namespace Go.Proofs.Ytpdcaoagpjcgbab
open Stm

theorem small_shared : Small sharedActs := by
  intro a ha
  simp [sharedActs, shared6, copies] at ha
  rcases ha with rfl | rfl | rfl | rfl | rfl | rfl | rfl | rfl | rfl | rfl | rfl | rfl <;> simp
theorem mkActK_new (k th x1 x2 x3 : Int) : (mkActK k th x1 x2 x3).kind = 4 → (mkActK k th x1 x2 x3).n ≤ 3 := by
  have := (pick_lt x2 3 (by omega)).2
  unfold mkActK
  repeat' split
  all_goals
    dsimp only
    intro h
    omega
theorem small_acts (th : Int) (R : Nat → Nat → Int) (k : Nat) : Small (actsTo th R k) := by
  intro a ha hk
  unfold actsTo at ha
  obtain ⟨j, _, rfl⟩ := List.mem_map.1 ha
  exact mkActK_new _ _ _ _ _ hk

end Go.Proofs.Ytpdcaoagpjcgbab

/-
  Plain mathematics: the script of limewashkeep.TransactionsEnd. It proves no statement by itself.
-/
namespace Go.Proofs.Ytpdcaoagpjcgbab
open Stm

def endActs (e k : Int) : List Stm.Act := [⟨7, 0, 1, 0, 7⟩, ⟨1, 0, 0, 0, 0⟩, ⟨4, 0, 0, 0, 1⟩, ⟨6, 0, 0, 1, 0⟩, ⟨2, 0, 0, 0, 0⟩, ⟨1, 0, 0, 0, 0⟩, ⟨7, 0, 1, 0, k⟩, ⟨6, 0, 0, 1, 0⟩, ⟨e, 0, 0, 0, 0⟩, ⟨1, 0, 0, 0, 0⟩, ⟨5, 0, 2, 0, 0⟩]

/-- Begin, set a register, and put it into the object: the store holds one number there. -/
theorem end_mid {S : AS} {k v : Int} (hk : 0 ≤ k ∧ k < 1000) (hc : ∀ u, (S.th u).tx = none) (hr : (S.th 0).regs 0 = .inr (0, 0)) (hst : S.store (0, 0) = [.inl v]) :
    ∃ x d, RunA S [⟨1, 0, 0, 0, 0⟩, ⟨7, 0, 1, 0, k⟩, ⟨6, 0, 0, 1, 0⟩] [.ok, .num k, .ok] (setTh S 0 x) ∧ x.tx = some d ∧ ¬ d.stale ∧ (∀ i, ¬ d.reads i) ∧ d.over (0, 0) = some [.inl k] ∧ d.saved = (S.th 0).regs ∧ d.cnt0 = (S.th 0).cnt ∧ x.regs 0 = .inr (0, 0) := by
  have h1 : Stm.RunT S.store 0 (S.th 0) [(⟨1, 0, 0, 0, 0⟩, .ok), (⟨7, 0, 1, 0, k⟩, .num k), (⟨6, 0, 0, 1, 0⟩, .ok)] (putT S.store (setReg (beginT (S.th 0)) 1 (.inl k)) ⟨(S.th 0).regs, (S.th 0).cnt, fun _ => False, fun _ => none, False⟩ 1 (0, 0) 0) := by
    refine ⟨beginT (S.th 0), by decide, rfl, .begin rfl (hc 0), setReg (beginT (S.th 0)) 1 (.inl k), by simp [firstErr, In4, usesA, usesB], rfl, .set rfl (by dsimp only; omega), _, by decide, rfl, .put rfl rfl ?_ ?_, rfl⟩
    · show upd (S.th 0).regs 1 (.inl k) 0 = _
      rw [upd_other _ _ (by decide)]
      exact hr
    · show (0 : Int) ≤ 0 ∧ (0 : Int) < ((S.store (0, 0)).length : Int)
      rw [hst]
      simp
  have h2 := h1.runA (fun u _ => hc u)
  refine ⟨_, _, h2, rfl, fun h => h, fun i h => h, ?_, rfl, rfl, ?_⟩
  · show updI (fun _ => none) (0, 0) (some ((S.store (0, 0)).set 0 (upd (S.th 0).regs 1 (.inl k) 1))) (0, 0) = _
    rw [updI_same, hst, upd_same]
    rfl
  · show upd (S.th 0).regs 1 (.inl k) 0 = _
    rw [upd_other _ _ (by decide)]
    exact hr
/-- Begin and read. -/
theorem end_read {S : AS} {v : Int} (hc : ∀ u, (S.th u).tx = none) (hr : (S.th 0).regs 0 = .inr (0, 0)) (hst : S.store (0, 0) = [.inl v]) :
    ∃ x, RunA S [⟨1, 0, 0, 0, 0⟩, ⟨5, 0, 2, 0, 0⟩] [.ok, .num v] (setTh S 0 x) := by
  have h1 : Stm.RunT S.store 0 (S.th 0) [(⟨1, 0, 0, 0, 0⟩, .ok), (⟨5, 0, 2, 0, 0⟩, told ((S.store (0, 0)).getD 0 (.inl 0)))] (getT S.store (beginT (S.th 0)) ⟨(S.th 0).regs, (S.th 0).cnt, fun _ => False, fun _ => none, False⟩ 2 (0, 0) 0) := by
    have hg : OneT S.store 0 (beginT (S.th 0)) ⟨5, 0, 2, 0, 0⟩ _ _ := OneT.get (d := ⟨(S.th 0).regs, (S.th 0).cnt, fun _ => False, fun _ => none, False⟩) (i := (0, 0)) rfl rfl hr (by
      show (0 : Int) ≤ 0 ∧ (0 : Int) < ((S.store (0, 0)).length : Int)
      rw [hst]
      simp)
    exact ⟨beginT (S.th 0), by decide, rfl, .begin rfl (hc 0), _, by show firstErr ⟨5, 0, 2, 0, 0⟩ = 0; decide, rfl, hg, rfl⟩
  rw [hst] at h1
  exact ⟨_, h1.runA (fun u _ => hc u)⟩
/-- A commit of a thread when no other has a transaction. -/
theorem end_commit {S : AS} {x : TS} {d : ATx} (hc : ∀ u, u ≠ 0 → (S.th u).tx = none) (hx : x.tx = some d) (hs : ¬ d.stale) (hr : ∀ i, ¬ d.reads i) : RunA (setTh S 0 x) [⟨2, 0, 0, 0, 0⟩] [.ok] (committed (setTh S 0 x) 0 d) ∧ (∀ u, ((committed (setTh S 0 x) 0 d).th u).tx = none) ∧ ((committed (setTh S 0 x) 0 d).th 0).regs = x.regs ∧ (committed (setTh S 0 x) 0 d).store = fun i => (d.over i).getD (S.store i) := by
  refine ⟨RunA.one (stepA2 (by decide) rfl ?_), fun u => ?_, ?_, rfl⟩
  · show CommitA (setTh S 0 x) 0 _ _
    unfold CommitA
    rw [setTh_th, hx]
    exact Ite.neg (fun h => h.elim hs (fun ⟨i, h, _⟩ => hr i h)) ⟨rfl, rfl⟩
  · by_cases e : u = 0
    · subst e; simp [committed]
    · have : (committed (setTh S 0 x) 0 d).th u = markT d.over ((setTh S 0 x).th u) := by simp [committed, e]
      rw [this, setTh_other _ _ e]
      unfold markT
      rw [hc u e]
      rfl
  · show ((committed (setTh S 0 x) 0 d).th 0).regs = _
    simp [committed, setTh_th]

theorem end_all {e k : Int} (he : e = 2 ∨ e = 3) (hk : 0 ≤ k ∧ k < 1000) {rs : List Ans} {c : Mc} {lf : List Nat} (h : RunC 400 (endActs e k) rs c lf) : rs[10]? = some (.num (if e = 2 then k else 7)) := by
  have hnc : ∀ a ∈ endActs e k, ¬ Stm.Clean a := by
    intro a ha
    simp [endActs] at ha
    unfold Stm.Clean
    rcases ha with rfl | rfl | rfl | rfl | rfl | rfl | rfl | rfl | rfl | rfl | rfl <;> (dsimp only; omega)
  have hsm : Small (endActs e k) := by
    intro a ha
    simp [endActs] at ha
    rcases ha with rfl | rfl | rfl | rfl | rfl | rfl | rfl | rfl | rfl | rfl | rfl <;> (dsimp only; omega)
  obtain ⟨⟨s, nm, hA, _, _⟩, _⟩ := sim_run h (by simp [endActs]) hsm (Nat.le_trans (news_le _) (by simp [endActs]))
  -- the first four acts, and the commit
  obtain ⟨x1, d1, a1, hx1, hs1, hr1, ho1, hg1⟩ : ∃ x1 d1, Stm.RunT AS.init.store 0 (AS.init.th 0) [(⟨7, 0, 1, 0, 7⟩, .num 7), (⟨1, 0, 0, 0, 0⟩, .ok), (⟨4, 0, 0, 0, 1⟩, .ok), (⟨6, 0, 0, 1, 0⟩, .ok)] x1 ∧ x1.tx = some d1 ∧ ¬ d1.stale ∧ (∀ i, ¬ d1.reads i) ∧ d1.over (0, 0) = some [.inl 7] ∧ x1.regs 0 = .inr (0, 0) := by
    refine ⟨_, _, ⟨_, by decide, rfl, .set rfl (by decide), _, by decide, rfl, .begin rfl rfl, _, by decide, rfl, .new rfl rfl (by decide), _, by decide, rfl, .put (i := (0, 0)) rfl rfl rfl (by decide), rfl⟩, rfl, fun h => h, fun i h => h, rfl, rfl⟩
  have b1 := a1.runA (S := AS.init) (fun u _ => rfl)
  obtain ⟨b2, c2, r2, s2⟩ := end_commit (S := AS.init) (fun u _ => rfl) hx1 hs1 hr1
  have m1 : RunA AS.init [⟨7, 0, 1, 0, 7⟩, ⟨1, 0, 0, 0, 0⟩, ⟨4, 0, 0, 0, 1⟩, ⟨6, 0, 0, 1, 0⟩, ⟨2, 0, 0, 0, 0⟩] [.num 7, .ok, .ok, .ok, .ok] _ := b1.append b2
  generalize hS : committed (setTh AS.init 0 x1) 0 d1 = S2 at m1 c2 r2 s2
  have hr2 : (S2.th 0).regs 0 = .inr (0, 0) := by rw [r2]; exact hg1
  have hst2 : S2.store (0, 0) = [.inl 7] := by rw [s2]; show (d1.over (0, 0)).getD _ = _; rw [ho1]; rfl
  obtain ⟨x, d, m2, hx, hd1, hd2, hd3, hd4, hd5, hd6⟩ := end_mid hk c2 hr2 hst2
  rcases he with rfl | rfl
  · obtain ⟨b3, c3, r3, s3⟩ := end_commit (S := S2) (fun u _ => c2 u) hx hd1 hd2
    obtain ⟨y, m3⟩ := end_read (v := k) c3 (by rw [r3]; exact hd6) (by rw [s3]; show (d.over (0, 0)).getD _ = _; rw [hd3]; rfl)
    have hall : RunA AS.init (endActs 2 k) _ _ := ((m1.append m2).append b3).append m3
    rw [(RunA.det hnc hA hall).1]
    rfl
  · have b3 : RunA (setTh S2 0 x) [⟨3, 0, 0, 0, 0⟩] [.ok] (setTh (setTh S2 0 x) 0 (undoT d)) := by
      refine RunA.one (stepA3 (by decide) rfl ?_)
      show AbortA (setTh S2 0 x) 0 _ _
      unfold AbortA
      rw [setTh_th, hx]
      exact ⟨rfl, rfl⟩
    obtain ⟨y, m3⟩ := end_read (S := setTh (setTh S2 0 x) 0 (undoT d)) (v := 7) (fun u => by
      by_cases e : u = 0
      · subst e; rw [setTh_th]; rfl
      · rw [setTh_other _ _ e, setTh_other _ _ e]; exact c2 u) (by rw [setTh_th]; show d.saved 0 = _; rw [hd4]; exact hr2) hst2
    have hall : RunA AS.init (endActs 3 k) _ _ := ((m1.append m2).append b3).append m3
    rw [(RunA.det hnc hA hall).1]
    rfl
end Go.Proofs.Ytpdcaoagpjcgbab

/-
  Plain mathematics: the scripts of limewashtop.TopSteps: how many words are used when a collection has ended. It proves no statement by itself.
-/
namespace Go.Proofs.Ytpdcaoagpjcgbab
open Stm

/-- What an act and its answer add to the words. -/
def addP (p : Stm.Act × Ans) : Int := if p.1.kind = 4 ∧ p.2.code = 0 then 2 + p.1.n else 0
def addz (ps : List (Stm.Act × Ans)) : Int := (ps.map addP).sum
theorem addz_cons (p : Stm.Act × Ans) (ps : List (Stm.Act × Ans)) : addz (p :: ps) = addP p + addz ps := by simp [addz]
theorem addz_plain {l : List Stm.Act} : ∀ {rs : List Ans}, rs.length = l.length → addz (l.zip rs) = addz ((plainOf l).zip (pickA l rs)) := by
  induction l with
  | nil => intro rs _; rfl
  | cons a l ih =>
    intro rs h
    cases rs with
    | nil => cases h
    | cons r rs =>
      have ih' := ih (rs := rs) (by simpa using h)
      cases hc : isCl a with
      | true =>
        have e1 : plainOf (a :: l) = plainOf l := by simp [plainOf, List.filter_cons, hc]
        have e2 : pickA (a :: l) (r :: rs) = pickA l rs := by simp [pickA, List.filter_cons, hc]
        rw [e1, e2, List.zip_cons_cons, addz_cons, ih']
        have := (isCl_iff a).1 hc
        unfold Stm.Clean at this
        unfold addP
        rw [if_neg (fun h => by dsimp only at h; omega)]
        omega
      | false =>
        have e1 : plainOf (a :: l) = a :: plainOf l := by simp [plainOf, List.filter_cons, hc]
        have e2 : pickA (a :: l) (r :: rs) = r :: pickA l rs := by simp [pickA, List.filter_cons, hc]
        rw [e1, e2, List.zip_cons_cons, List.zip_cons_cons, addz_cons, addz_cons, ih']

/-- What an act that is not of a collection does to the places of the objects. -/
structure Kp (c c' : Mc) (l l' : List Nat) (d : Int) : Prop where
  coll : c'.coll = c.coll
  lens : ∀ q ∈ l, c'.xs.getD (q + 1) 0 = c.xs.getD (q + 1) 0
  top : c'.top = c.top + d
  objs : (d = 0 ∧ l' = l) ∨ (2 ≤ d ∧ l' = l ++ [c.top.toNat] ∧ c'.xs.getD (c.top.toNat + 1) 0 = d - 2)

theorem Kp.of {c c' : Mc} {l l' : List Nat} {k k' : Nat} (hi : Inv c l k) (hi' : Inv c' l' k') (h1 : c'.coll = c.coll) (h2 : ∀ q ∈ l, c'.xs.getD (q + 1) 0 = c.xs.getD (q + 1) 0) (h3 : c'.top = c.top) : Kp c c' l l' 0 := by
  refine ⟨h1, h2, by rw [h3]; omega, .inl ⟨rfl, ?_⟩⟩
  have e1 := hi'.valid.objects.1
  have e2 := Lw.objs_same (ys := c'.xs) (by have := hi.valid.top1; omega) hi.valid.objects.1 h2
  rw [h3, e2] at e1
  exact (Option.some.inj e1).symm

theorem undo_lens {c c' : Mc} {l : List Nat} {k t : Nat} (hi : Inv c l k) (h : CUndo c t c') : c'.coll = c.coll ∧ (∀ q ∈ l, c'.xs.getD (q + 1) 0 = c.xs.getD (q + 1) 0) ∧ c'.top = c.top := by
  obtain ⟨ys, hy, rfl⟩ := h
  exact ⟨rfl, fun q hq => (hi.undone hy hq).1, rfl⟩
theorem acc_lens {c c' : Mc} {l : List Nat} {k t : Nat} {v : Val} {n : Int} {r : Ans} {g : Prop} (hi : Inv c l k) (h : CAcc c l t v n r c' g) (hg : v.n ∈ nums l → 0 ≤ n → n < c.xs.getD (v.n.toNat + 1) 0 → g → c'.coll = c.coll ∧ (∀ q ∈ l, c'.xs.getD (q + 1) 0 = c.xs.getD (q + 1) 0) ∧ c'.top = c.top) : c'.coll = c.coll ∧ (∀ q ∈ l, c'.xs.getD (q + 1) 0 = c.xs.getD (q + 1) 0) ∧ c'.top = c.top := by
  have same : c' = c → c'.coll = c.coll ∧ (∀ q ∈ l, c'.xs.getD (q + 1) 0 = c.xs.getD (q + 1) 0) ∧ c'.top = c.top := fun e => by rw [e]; exact ⟨rfl, fun _ _ => rfl, rfl⟩
  by_cases h1 : (c.tx t).isOpen = true
  · have h := h.yes h1
    by_cases h2 : v.k = 1 ∧ v.n ≠ 0
    · have h := h.yes h2
      by_cases h3 : v.n ∈ nums l ∧ 0 ≤ n ∧ n < c.xs.getD (v.n.toNat + 1) 0
      · have h := h.yes h3
        by_cases h4 : Owned c.xs t v.n
        · exact undo_lens hi (h.yes h4).2
        · exact hg h3.1 h3.2.1 h3.2.2 (h.no h4)
      · exact same (h.no h3).2
    · exact same (h.no h2).2
  · exact same (h.no h1).2

theorem step_kp {c c' : Mc} {l l' : List Nat} {k : Nat} {a : Stm.Act} {r : Ans} (hg : Good c l k) (hs : StepC c l a r c') (hg' : Good c' l' (k + 1)) (hc : ¬ Stm.Clean a) : Kp c c' l l' (addP (a, r)) := by
  have hi := hg.inv
  have keep : addP (a, r) = 0 → (c'.coll = c.coll ∧ (∀ q ∈ l, c'.xs.getD (q + 1) 0 = c.xs.getD (q + 1) 0) ∧ c'.top = c.top) → Kp c c' l l' (addP (a, r)) := fun h0 h => by rw [h0]; exact Kp.of hi hg'.inv h.1 h.2.1 h.2.2
  have n4 : a.kind ≠ 4 → addP (a, r) = 0 := fun h => by unfold addP; rw [if_neg (fun hh => h hh.1)]
  have nr : r.code ≠ 0 → addP (a, r) = 0 := fun h => by unfold addP; rw [if_neg (fun hh => h hh.2)]
  have same : c' = c → c'.coll = c.coll ∧ (∀ q ∈ l, c'.xs.getD (q + 1) 0 = c.xs.getD (q + 1) 0) ∧ c'.top = c.top := fun e => by rw [e]; exact ⟨rfl, fun _ _ => rfl, rfl⟩
  by_cases h0 : firstErr a = 0
  · have hs := hs.yes h0
    by_cases h1 : a.kind = 1
    · have hs := hs.yes h1
      refine keep (n4 (by omega)) ?_
      by_cases ho : (c.tx a.t.toNat).isOpen = true
      · exact same (hs.yes ho).2
      · rw [(hs.no ho).2]; exact ⟨rfl, fun _ _ => rfl, rfl⟩
    have hs := hs.no h1
    by_cases h2 : a.kind = 2
    · have hs := hs.yes h2
      refine keep (n4 (by omega)) ?_
      by_cases ho : (c.tx a.t.toNat).isOpen = true
      · have hs := hs.yes ho
        by_cases hh : Holds c a.t.toNat
        · obtain ⟨_, ys, hy, rfl⟩ := hs.yes hh
          refine ⟨rfl, fun q hq => hy.rest _ ?_, rfl⟩
          cases hx : (c.tx a.t.toNat).own ((q + 1 : Nat) : Int) with
          | none => rfl
          | some o =>
            have h2 := (hi.ownPlace hx).1
            have := objs_gap hi.valid.objects.1 q hq _ h2 (by omega)
            omega
        · exact undo_lens hi (hs.no hh).2
      · exact same (hs.no ho).2
    have hs := hs.no h2
    by_cases h3 : a.kind = 3
    · have hs := hs.yes h3
      refine keep (n4 (by omega)) ?_
      by_cases ho : (c.tx a.t.toNat).isOpen = true
      · exact undo_lens hi (hs.yes ho).2
      · exact same (hs.no ho).2
    have hs := hs.no h3
    by_cases h4 : a.kind = 4
    · have hs := hs.yes h4
      by_cases ho : (c.tx a.t.toNat).isOpen = true
      · have hs := hs.yes ho
        by_cases hn : 0 ≤ a.n ∧ a.n ≤ 6
        · have hs := hs.yes hn
          by_cases hf : 2 + a.n ≤ c.xs.length - c.top
          · obtain ⟨hr, hc'⟩ := hs.yes hf
            obtain ⟨f, hfe⟩ := Int.eq_ofNat_of_zero_le hn.1
            obtain ⟨T, hT⟩ := Int.eq_ofNat_of_zero_le (a := c.top) (by have := hi.valid.top1; omega)
            obtain ⟨i1, i2, i3, i4⟩ := firstErr_in h0
            have it := i1 (by omega)
            have ia := i2 (by unfold usesA; omega)
            unfold In4 at it ia
            have hin := hi.new (t := a.t.toNat) (A := a.a.toNat) (f := f) (by omega) (by omega) hT (by omega) (by omega)
            have hadd : addP (a, r) = 2 + a.n := by unfold addP; rw [if_pos ⟨h4, by rw [hr]; rfl⟩]
            have hlt : ∀ q ∈ l, q + 2 + lenAt c.xs q ≤ T := fun q hq => by have := (hi.place hq).2.2.2.2; rw [hT] at this; simpa using this
            rw [hadd]
            have hll : l' = l ++ [T] := by
              refine hg'.inv.valid.unique ?_
              rw [hc', hT, hfe, Int.toNat_natCast]
              exact hin.valid
            refine ⟨by rw [hc'], fun q hq => ?_, by rw [hc'], .inr ⟨by omega, by rw [hll, hT, Int.toNat_natCast], ?_⟩⟩
            · rw [hc', hT, Int.toNat_natCast]
              have := hlt q hq
              exact Lw.getD_set_ne (by omega)
            · rw [hc', hT, Int.toNat_natCast]
              rw [show 2 + a.n - 2 = a.n by omega]
              exact Lw.getD_set_eq (by omega)
          · obtain ⟨hr, hc'⟩ := hs.no hf
            exact keep (nr (by rw [hr]; decide)) (same hc')
        · obtain ⟨hr, hc'⟩ := hs.no hn
          exact keep (nr (by rw [hr]; decide)) (same hc')
      · obtain ⟨hr, hc'⟩ := hs.no ho
        exact keep (nr (by rw [hr]; decide)) (same hc')
    have hs := hs.no h4
    refine keep (n4 h4) ?_
    by_cases h5 : a.kind = 5
    · exact acc_lens hi (hs.yes h5) (fun _ _ _ h => by rw [h.2]; exact ⟨rfl, fun _ _ => rfl, rfl⟩)
    have hs := hs.no h5
    by_cases h6 : a.kind = 6
    · refine acc_lens hi (hs.yes h6) (fun h7 h8 h9 h => ?_)
      rw [h.2]
      refine ⟨rfl, fun q hq => ?_, rfl⟩
      obtain ⟨p, hp, hpl⟩ := nums_mem h7
      rw [hp, Int.toNat_natCast] at h9
      show ((ownXs c _ _).set _ _).getD (q + 1) 0 = _
      rw [hp, Int.toNat_natCast]
      have hap := Lw.field_apart hi.valid.objects.1 hpl hq (show ((a.n.toNat : Nat) : Int) < c.xs.getD (p + 1) 0 by omega)
      rw [Lw.getD_set_ne (fun e => hap.2 e)]
      exact ownXs_len hi hpl hq _
    have hs := hs.no h6
    by_cases h7 : a.kind = 7
    · have hs := hs.yes h7
      by_cases hn : -1099511627776 ≤ a.n ∧ a.n ≤ 1099511627776
      · rw [(hs.yes hn).2]; exact ⟨rfl, fun _ _ => rfl, rfl⟩
      · exact same (hs.no hn).2
    have hs := hs.no h7
    by_cases h8 : a.kind = 8
    · have hs := hs.yes h8
      by_cases hn : a.n.toNat ≠ a.t.toNat ∧ ((c.tx a.t.toNat).isOpen = true ∨ (c.tx a.n.toNat).isOpen = true)
      · exact same (hs.yes hn).2
      · rw [(hs.no hn).2]; exact ⟨rfl, fun _ _ => rfl, rfl⟩
    have hs := hs.no h8
    by_cases h9 : a.kind = 9
    · exact same (hs.yes h9).2
    exact absurd (by have := firstErr_kind h0; unfold Stm.Clean; omega) hc
  · obtain ⟨hr, hc'⟩ := hs.no h0
    exact keep (nr (by rw [hr]; exact h0)) (same hc')

/-- What a collection will have left, whenever it ends. -/
structure Jn (zs : List Nat) (W T0 : Int) (c : Mc) (l : List Nat) (d : Int) : Prop where
  going : c.coll.going = true → c.coll.ret = nums zs ∧ c.coll.top = T0 ∧ c.top = T0 + d ∧ (∀ q ∈ zs, q ∈ l) ∧ (wordsOf c.xs zs : Int) = W ∧ ∃ l0 l2, l = l0 ++ l2 ∧ (∀ q ∈ l0, (q : Int) < T0) ∧ (∀ q ∈ l2, T0 ≤ (q : Int)) ∧ (wordsOf c.xs l2 : Int) = d
  done : c.coll.going = false → c.top = 1 + W + d

theorem wordsOf_congr {xs ys : List Int} {qs : List Nat} (h : ∀ q ∈ qs, ys.getD (q + 1) 0 = xs.getD (q + 1) 0) : wordsOf ys qs = wordsOf xs qs := by
  induction qs with
  | nil => rfl
  | cons q qs ih =>
    have e : lenAt ys q = lenAt xs q := by unfold lenAt; rw [h q (by simp)]
    simp only [wordsOf, e, ih (fun p hp => h p (by simp [hp]))]

theorem Jn.kp {zs : List Nat} {W T0 d e : Int} {c c' : Mc} {l l' : List Nat} (h : Jn zs W T0 c l d) (hk : Kp c c' l l' e) (hd : 0 ≤ d) (ht : 1 ≤ c.top) : Jn zs W T0 c' l' (d + e) := by
  refine ⟨fun hg => ?_, fun hg => ?_⟩
  · rw [hk.coll] at hg ⊢
    obtain ⟨h1, h2, h3, h4, h5, l0, l2, h6, h7, h8, h9⟩ := h.going hg
    have hz : (wordsOf c'.xs zs : Int) = W := by rw [wordsOf_congr (fun q hq => hk.lens q (h4 q hq))]; exact h5
    have h2' : (wordsOf c'.xs l2 : Int) = d := by rw [wordsOf_congr (fun q hq => hk.lens q (by rw [h6]; exact List.mem_append.2 (.inr hq)))]; exact h9
    rcases hk.objs with ⟨rfl, rfl⟩ | ⟨he, rfl, hl⟩
    · exact ⟨h1, h2, by rw [hk.top, h3]; omega, h4, hz, l0, l2, h6, h7, h8, by rw [h2']; omega⟩
    · refine ⟨h1, h2, by rw [hk.top, h3]; omega, fun q hq => List.mem_append.2 (.inl (h4 q hq)), hz, l0, l2 ++ [c.top.toNat], by rw [h6, List.append_assoc], h7, fun q hq => ?_, ?_⟩
      · rcases List.mem_append.1 hq with hq | hq
        · exact h8 q hq
        · simp at hq; subst hq; omega
      · rw [wordsOf_append]
        simp only [wordsOf]
        have : lenAt c'.xs c.top.toNat = (e - 2).toNat := by unfold lenAt; rw [hl]
        rw [this]
        omega
  · rw [hk.coll] at hg
    rw [hk.top, h.done hg]
    omega

theorem Jn.finish {zs : List Nat} {W T0 d f : Int} {c c' : Mc} {l l' : List Nat} {k : Nat} (h : Jn zs W T0 c l d) (hg : c.coll.going = true) (hf : CFinish c l f c') (hi : Inv c l k) : Jn zs W T0 c' l' d := by
  obtain ⟨h1, h2, h3, h4, h5, l0, l2, h6, h7, h8, h9⟩ := h.going hg
  obtain ⟨qs, m, tx', hkq, hd, htx, _, rfl⟩ := hf
  refine ⟨fun e => (by cases e), fun _ => ?_⟩
  have hq : qs = zs ++ l2 := by
    apply nums_inj
    rw [← hkq, nums_append]
    unfold keepL
    rw [if_pos hg, h1, h2, h6, nums_append, List.filter_append]
    have e1 : (nums l0).filter (fun q => decide (T0 ≤ q)) = [] := List.filter_eq_nil_iff.2 fun q hq => by
      obtain ⟨p, rfl, hp⟩ := nums_mem hq
      have := h7 p hp
      simp
      omega
    have e2 : (nums l2).filter (fun q => decide (T0 ≤ q)) = nums l2 := List.filter_eq_self.2 fun q hq => by
      obtain ⟨p, rfl, hp⟩ := nums_mem hq
      have := h8 p hp
      simpa using this
    rw [e1, e2, List.nil_append]
  show ((toAt c.xs qs qs.length : Nat) : Int) = 1 + W + d
  unfold toAt
  rw [List.take_of_length_le (Nat.le_refl _), hq, wordsOf_append]
  omega

theorem Jn.step {zs : List Nat} {W T0 d : Int} {c c' : Mc} {l l' : List Nat} {k : Nat} {a : Stm.Act} {r : Ans} (h : Jn zs W T0 c l d) (hd : 0 ≤ d) (hg : Good c l k) (hs : StepC c l a r c') (hg' : Good c' l' (k + 1)) (ha : a.kind ≠ 10) : Jn zs W T0 c' l' (d + addP (a, r)) ∧ 0 ≤ addP (a, r) := by
  by_cases hc : Stm.Clean a
  · have h0 := firstErr_clean hc
    have e0 : addP (a, r) = 0 := by unfold Stm.Clean at hc; unfold addP; rw [if_neg (fun h => by dsimp only at h; omega)]
    rw [e0]
    refine ⟨?_, Int.le_refl _⟩
    rw [Int.add_zero]
    have same : c' = c → Jn zs W T0 c' l' d := fun e => by
      subst e
      rw [hg'.inv.valid.unique hg.inv.valid]
      exact h
    unfold Stm.Clean at hc
    have hs := ((((((((((hs.yes h0).no (by omega)).no (by omega)).no (by omega)).no (by omega)).no (by omega)).no (by omega)).no (by omega)).no (by omega)).no (by omega)).no ha
    by_cases h11 : a.kind = 11
    · have hs := hs.yes h11
      by_cases hn : 1 ≤ a.n ∧ a.n ≤ 400
      · have hs := hs.yes hn
        by_cases hgo : c.coll.going = true
        · have hs := hs.yes hgo
          by_cases hlt : 0 < c.coll.left - a.n
          · obtain ⟨_, rfl⟩ := hs.yes hlt
            have e : l' = l := by
              have := hg'.inv.valid
              exact this.unique hg.inv.valid
            subst e
            exact ⟨fun _ => h.going hgo, fun e => (by cases e)⟩
          · obtain ⟨f, _, hf⟩ := hs.no hlt
            exact h.finish hgo hf hg.inv
        · exact same (hs.no hgo).2
      · exact same (hs.no hn).2
    · exact same (hs.no h11).2
  · have hk := step_kp hg hs hg' hc
    refine ⟨h.kp hk hd hg.inv.valid.top1, ?_⟩
    rcases hk.objs with ⟨e, _⟩ | ⟨e, _⟩
    · omega
    · omega

theorem Jn.steps {zs : List Nat} {W T0 : Int} {c c' : Mc} {l l' : List Nat} {k : Nat} {bs : List Stm.Act} {rs : List Ans} (hs : Steps c l k bs rs c' l') : ∀ {d : Int}, Jn zs W T0 c l d → 0 ≤ d → Good c l k → (∀ a ∈ bs, a.kind ≠ 10) → Jn zs W T0 c' l' (d + addz (bs.zip rs)) := by
  induction hs with
  | nil => intro d h _ _ _; simpa [addz] using h
  | cons hs hg' _ ih =>
    intro d h hd hg ha
    obtain ⟨h1, h2⟩ := h.step hd hg hs hg' (ha _ (by simp))
    have := ih h1 (by omega) hg' (fun b hb => ha b (by simp [hb]))
    rw [List.zip_cons_cons, addz_cons]
    rw [Int.add_assoc] at this
    exact this

/-- The script with steps of k objects. -/
def stepsOf (rest : List Stm.Act) (k : Int) : List Stm.Act := rest.flatMap fun a => [a, ⟨11, 0, 0, 0, k⟩]
def stepsEnd : List Stm.Act := [⟨11, 0, 0, 0, 400⟩, ⟨12, 0, 0, 0, 0⟩]
theorem stepsOf_length (rest : List Stm.Act) (k : Int) : (stepsOf rest k).length = 2 * rest.length := by
  induction rest with
  | nil => rfl
  | cons a l ih =>
    have : stepsOf (a :: l) k = [a, ⟨11, 0, 0, 0, k⟩] ++ stepsOf l k := rfl
    rw [this, List.length_append, ih]
    simp
    omega
theorem stepsOf_plain (rest : List Stm.Act) (k : Int) (h : ∀ a ∈ rest, ¬ Stm.Clean a) : plainOf (stepsOf rest k) = rest := by
  induction rest with
  | nil => rfl
  | cons a l ih =>
    have e : stepsOf (a :: l) k = [a, ⟨11, 0, 0, 0, k⟩] ++ stepsOf l k := rfl
    have h1 : isCl a = false := by
      cases hc : isCl a with
      | false => rfl
      | true => exact absurd ((isCl_iff a).1 hc) (h a (by simp))
    have e2 : plainOf ([a, ⟨11, 0, 0, 0, k⟩] ++ stepsOf l k) = plainOf [a, ⟨11, 0, 0, 0, k⟩] ++ plainOf (stepsOf l k) := List.filter_append _ _
    rw [e, e2, ih (fun b hb => h b (by simp [hb]))]
    have hk : isCl (⟨11, 0, 0, 0, k⟩ : Stm.Act) = true := rfl
    simp [plainOf, List.filter_cons, h1, hk]
theorem mem_stepsOf {rest : List Stm.Act} {k : Int} {a : Stm.Act} (h : a ∈ stepsOf rest k) : a ∈ rest ∨ a = ⟨11, 0, 0, 0, k⟩ := by
  unfold stepsOf at h
  obtain ⟨b, hb, h⟩ := List.mem_flatMap.1 h
  simp at h
  rcases h with rfl | rfl
  · exact .inl hb
  · exact .inr rfl

/-- No collection is in progress behind acts that begin none. -/
theorem idle {l : List Stm.Act} {rs : List Ans} {c : Mc} {lf : List Nat} {n : Nat} (h1 : 1 ≤ n) (h2 : n ≤ 400) (h : RunC n l rs c lf) : (∀ a ∈ l, ¬ Stm.Clean a) → c.coll.going = false := by
  induction h with
  | nil => intro _; rfl
  | @snoc l rs c lf a r c1 lf1 h hs hg ih =>
    intro hc
    have hg0 := h.good h1 h2
    have hk := step_kp hg0 hs hg (hc a (by simp))
    rw [hk.coll]
    exact ih (fun b hb => hc b (List.mem_append.2 (.inl hb)))

theorem pickA_append {l1 l2 : List Stm.Act} {r1 r2 : List Ans} (h : r1.length = l1.length) : pickA (l1 ++ l2) (r1 ++ r2) = pickA l1 r1 ++ pickA l2 r2 := by
  unfold pickA
  rw [List.zip_append h.symm, List.filter_append, List.map_append]

/-- The number of words in the end, from the state in which the collection has begun. -/
theorem steps_words {F rest : List Stm.Act} {k : Int} {rs : List Ans} {c : Mc} {lf : List Nat} (h : RunC 400 (F ++ [⟨10, 0, 0, 0, 0⟩] ++ (stepsOf rest k ++ stepsEnd)) rs c lf) (hF : ∀ a ∈ F, ¬ Stm.Clean a) (hr : ∀ a ∈ rest, ¬ Stm.Clean a) :
    ∃ r1 r2 c1 lf1 W T0, RunC 400 (F ++ [⟨10, 0, 0, 0, 0⟩]) r1 c1 lf1 ∧ rs = r1 ++ r2 ∧ (∃ zs : List Nat, c1.coll.ret = nums zs ∧ (wordsOf c1.xs zs : Int) = W) ∧ T0 = c1.top ∧ ∃ r3 q, r2 = r3 ++ [q, ⟨0, false, 0, false, W + addz ((stepsOf rest k ++ stepsEnd).zip r2), false, 0⟩] ∧ r3.length = 2 * rest.length := by
  obtain ⟨r1, r2, c1, lf1, rfl, k1, k2⟩ := h.steps (F ++ [⟨10, 0, 0, 0, 0⟩]) (stepsOf rest k ++ stepsEnd) rfl
  have hg1 := k1.good (by omega) (by omega)
  obtain ⟨q1, q2, c0, lf0, e0, k3, k4⟩ := k1.steps F [⟨10, 0, 0, 0, 0⟩] rfl
  have hid := idle (by omega) (by omega) k3 hF
  have hg0 := k3.good (by omega) (by omega)
  cases k4 with
  | cons s0 g0 k5 =>
    cases k5
    obtain ⟨_, us, ws, hus, hws, rfl⟩ := (step_collect s0).no (by rw [hid]; decide)
    obtain ⟨zs, hz1, hz2, hz3⟩ := g0.inv.ret rfl
    have hzw : ws = nums zs := hz1
    have hlf : lf1 = lf0 := by
      have := g0.inv.valid
      exact this.unique hg0.inv.valid
    have hJ : Jn zs (wordsOf c0.xs zs) c0.top ⟨c0.xs, c0.top, c0.regs, c0.tx, ⟨true, ws, ws.length, c0.top⟩⟩ lf1 0 := by
      refine ⟨fun _ => ⟨hzw, rfl, by simp, fun q hq => hz2.sub q hq, rfl, lf1, [], by simp, fun q hq => ?_, fun q hq => (by simp at hq), rfl⟩, fun e => (by cases e)⟩
      have h5 := (g0.inv.place hq).2.2.2.2
      have h6 := g0.inv.valid.top1
      dsimp only at h5 h6
      omega
    have hk10 : ∀ a ∈ stepsOf rest k ++ stepsEnd, a.kind ≠ 10 := fun a ha => by
      rcases List.mem_append.1 ha with ha | ha
      · rcases mem_stepsOf ha with ha | rfl
        · have := hr a ha
          unfold Stm.Clean at this
          omega
        · simp
      · simp [stepsEnd] at ha
        rcases ha with rfl | rfl <;> decide
    have hend := Jn.steps k2 hJ (Int.le_refl _) hg1 hk10
    rw [Int.zero_add] at hend
    -- the last two acts
    have hrun : RunC 400 ((F ++ [⟨10, 0, 0, 0, 0⟩] ++ stepsOf rest k) ++ stepsEnd) (r1 ++ r2) c lf := by rw [List.append_assoc]; exact h
    obtain ⟨p1, p2, c2, lf2, e2, k6, k7⟩ := hrun.steps (F ++ [⟨10, 0, 0, 0, 0⟩] ++ stepsOf rest k) stepsEnd rfl
    have hg2 := k6.good (by omega) (by omega)
    have l1 := k1.length
    have l6 := k6.length
    unfold stepsEnd at k7
    cases k7 with
    | cons s1 g1 k8 => cases k8 with
      | cons s2 g2 k9 =>
        cases k9
        have hst := step_stat s2
        obtain ⟨hst1, rfl⟩ := hst
        have hgo : c.coll.going = false := by
          rcases step400 hg2 s1 with ⟨h1, _, rfl⟩ | ⟨_, f, _, hf⟩
          · exact h1
          · exact finish_going hf
        have htop := hend.done hgo
        refine ⟨r1, r2, _, lf1, _, _, k1, rfl, ⟨zs, hzw, rfl⟩, rfl, ?_⟩
        have hr1 : r1 = p1.take r1.length := by
          have := congrArg (List.take r1.length) e2
          rw [List.take_left, List.take_append_of_le_length (by rw [l1, l6]; simp)] at this
          exact this
        have hr2 := congrArg (List.drop r1.length) e2
        rw [List.drop_left, List.drop_append_of_le_length (by rw [l1, l6]; simp)] at hr2
        rw [hst1, hgo] at hr2
        have hw : c.top - 1 = (wordsOf c0.xs zs : Int) + addz ((stepsOf rest k ++ stepsEnd).zip r2) := by omega
        rw [hw] at hr2
        exact ⟨_, _, hr2, by rw [List.length_drop, l1, l6, List.length_append, stepsOf_length]; omega⟩

/-- The number of objects per step does not matter. -/
theorem steps_same {F rest : List Stm.Act} {k1 k2 : Int} {xs ys : List Ans} {c c' : Mc} {lf lf' : List Nat} (h1 : RunC 400 (F ++ [⟨10, 0, 0, 0, 0⟩] ++ (stepsOf rest k1 ++ stepsEnd)) xs c lf) (h2 : RunC 400 (F ++ [⟨10, 0, 0, 0, 0⟩] ++ (stepsOf rest k2 ++ stepsEnd)) ys c' lf')
    (hF : ∀ a ∈ F, ¬ Stm.Clean a) (hr : ∀ a ∈ rest, ¬ Stm.Clean a) (hsF : Small F) (hsr : Small rest) (hl : F.length + 2 * rest.length ≤ 390) (hn : F.length + rest.length ≤ 79) : ∃ p1 p2 z, xs = p1 ++ [⟨0, false, 0, false, z, false, 0⟩] ∧ ys = p2 ++ [⟨0, false, 0, false, z, false, 0⟩] ∧ p1.length = F.length + 2 * rest.length + 2 ∧ p2.length = F.length + 2 * rest.length + 2 := by
  have hsmall : ∀ k, Small (F ++ [⟨10, 0, 0, 0, 0⟩] ++ (stepsOf rest k ++ stepsEnd)) := fun k a ha hk => by
    rcases List.mem_append.1 ha with ha | ha
    · rcases List.mem_append.1 ha with ha | ha
      · exact hsF a ha hk
      · simp at ha; subst ha; simp at hk
    · rcases List.mem_append.1 ha with ha | ha
      · rcases mem_stepsOf ha with ha | rfl
        · exact hsr a ha hk
        · simp at hk
      · simp [stepsEnd] at ha
        rcases ha with rfl | rfl <;> simp at hk
  have hplain : ∀ k, plainOf (F ++ [⟨10, 0, 0, 0, 0⟩] ++ (stepsOf rest k ++ stepsEnd)) = F ++ rest := fun k => by
    have e1 : ∀ l m : List Stm.Act, plainOf (l ++ m) = plainOf l ++ plainOf m := fun l m => List.filter_append _ _
    have e2 : plainOf F = F := List.filter_eq_self.2 fun a ha => by
      cases hc : isCl a with
      | false => rfl
      | true => exact absurd ((isCl_iff a).1 hc) (hF a ha)
    have e3 : plainOf [(⟨10, 0, 0, 0, 0⟩ : Stm.Act)] = [] := rfl
    have e4 : plainOf stepsEnd = [] := rfl
    rw [e1, e1, e1, e2, e3, e4, stepsOf_plain rest k hr]
    simp
  have hnews : ∀ k, news (F ++ [⟨10, 0, 0, 0, 0⟩] ++ (stepsOf rest k ++ stepsEnd)) ≤ 79 := fun k => by
    have e : news (F ++ [⟨10, 0, 0, 0, 0⟩] ++ (stepsOf rest k ++ stepsEnd)) = news (plainOf (F ++ [⟨10, 0, 0, 0, 0⟩] ++ (stepsOf rest k ++ stepsEnd))) := by
      unfold news plainOf
      rw [List.countP_filter]
      refine List.countP_congr fun a _ => ?_
      simp [isCl]
      intro h
      omega
    rw [e, hplain]
    refine Nat.le_trans (news_le _) ?_
    rw [List.length_append]
    exact hn
  have hlen : ∀ k, (F ++ [(⟨10, 0, 0, 0, 0⟩ : Stm.Act)] ++ (stepsOf rest k ++ stepsEnd)).length ≤ 400 := fun k => by
    simp [stepsOf_length, stepsEnd]
    omega
  obtain ⟨⟨s1, _, a1, _, _⟩, _⟩ := sim_run h1 (hlen k1) (hsmall k1) (hnews k1)
  obtain ⟨⟨s2, _, a2, _, _⟩, _⟩ := sim_run h2 (hlen k2) (hsmall k2) (hnews k2)
  have b1 := runA_plain a1
  have b2 := runA_plain a2
  rw [hplain] at b1 b2
  have hpick := (RunA.det (fun a ha => by exact (List.mem_append.1 ha).elim (hF a) (hr a)) b1 b2).1
  obtain ⟨r1, r2, c1, lf1, W, T0, k1', e1, ⟨zs, hz, hW⟩, _, r3, q, e3, l3⟩ := steps_words h1 hF hr
  obtain ⟨t1, t2, c2, lf2, W', T0', k2', e2, ⟨zs', hz', hW'⟩, _, t3, q', e4, l4⟩ := steps_words h2 hF hr
  obtain ⟨rfl, rfl, _⟩ := k1'.det k2'
  obtain rfl := nums_inj (hz.symm.trans hz')
  obtain rfl := hW.symm.trans hW'
  have lr1 := k1'.length
  have lx := h1.length
  have ly := h2.length
  rw [e1, e2, pickA_append lr1, pickA_append lr1] at hpick
  have hpk := List.append_cancel_left hpick
  have hll : ∀ k, (stepsOf rest k ++ stepsEnd).length = 2 * rest.length + 2 := fun k => by rw [List.length_append, stepsOf_length]; rfl
  have hpl : ∀ k, plainOf (stepsOf rest k ++ stepsEnd) = rest := fun k => by
    have e1 : plainOf (stepsOf rest k ++ stepsEnd) = plainOf (stepsOf rest k) ++ plainOf stepsEnd := List.filter_append _ _
    have e4 : plainOf stepsEnd = [] := rfl
    rw [e1, e4, stepsOf_plain rest k hr, List.append_nil]
  have z1 : addz ((stepsOf rest k1 ++ stepsEnd).zip r2) = addz ((stepsOf rest k2 ++ stepsEnd).zip t2) := by
    have y1 := addz_plain (l := stepsOf rest k1 ++ stepsEnd) (rs := r2) (by rw [e3, hll]; simp [l3])
    have y2 := addz_plain (l := stepsOf rest k2 ++ stepsEnd) (rs := t2) (by rw [e4, hll]; simp [l4])
    rw [y1, y2, hpl, hpl, hpk]
  have lF : r1.length = F.length + 1 := by rw [lr1]; simp
  have key : ∀ (a b : List Ans) (x y : Ans), a ++ (b ++ [x, y]) = (a ++ b ++ [x]) ++ [y] := fun a b x y => by simp
  generalize addz ((stepsOf rest k1 ++ stepsEnd).zip r2) = A at e3 z1
  rw [← z1] at e4
  rw [e3] at e1
  rw [e4] at e2
  exact ⟨_, _, _, e1.trans (key _ _ _ _), e2.trans (key _ _ _ _), by simp [lF, l3]; omega, by simp [lF, l4]; omega⟩
end Go.Proofs.Ytpdcaoagpjcgbab

