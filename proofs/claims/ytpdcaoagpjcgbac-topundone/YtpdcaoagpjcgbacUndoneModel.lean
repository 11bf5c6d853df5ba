/-
  Plain mathematics: the scripts of limewashtop.TopUndone. It proves no statement by itself.
-/
import Derived.Test.YtpdcaoagpjcgbacSimC
import Derived.Test.YtpdcaoagpjcgbacFreeA
set_option linter.unusedVariables false
set_option linter.unusedSimpArgs false
namespace Go.Proofs.Ytpdcaoagpjcgbac
open Stm

/-- An act that is neither a begin, a commit nor an abort. -/
def isMore (a : Stm.Act) : Bool := a.kind != 1 && (a.kind != 2 && a.kind != 3)
def moreOf (l : List Stm.Act) : List Stm.Act := l.filter isMore
/-- An act of thread 0 by itself. -/
def Zero (a : Stm.Act) : Prop := a.t.toNat = 0 ∧ (a.kind = 8 → a.n.toNat = 0)

theorem zero_acts (R : Nat → Nat → Int) (k : Nat) : ∀ a ∈ actsTo (1 : Nat) R k, Zero a := by
  intro a ha
  unfold actsTo at ha
  obtain ⟨j, _, rfl⟩ := List.mem_map.1 ha
  have h1 : pick (R j 3) ((1 : Nat) : Int) = 0 := by have := pick_lt (R j 3) ((1 : Nat) : Int) (by omega); omega
  have h2 : pick ((R j 2).tdiv 4) ((1 : Nat) : Int) = 0 := by have := pick_lt ((R j 2).tdiv 4) ((1 : Nat) : Int) (by omega); omega
  unfold mkAct mkActK Zero
  rw [h1, h2]
  repeat' split
  all_goals
    dsimp only
    exact ⟨rfl, fun h => by omega⟩

theorem more_step {s1 : AS} (hc : ∀ u, u ≠ 0 → (s1.th u).tx = none) {x : TS} {d : ATx} (hx : x.tx = some d) {a : Stm.Act} {r : Ans} {s' : AS} (h : StepA (setTh s1 0 x) a r s') (hm : isMore a = true) (hz : Zero a) :
    ∃ x' d', s' = setTh s1 0 x' ∧ x'.tx = some d' ∧ d'.saved = d.saved ∧ d'.cnt0 = d.cnt0 := by
  have hk : a.kind ≠ 1 ∧ a.kind ≠ 2 ∧ a.kind ≠ 3 := by simpa [isMore] using hm
  have hnb : ∀ i, ¬ Busy (setTh s1 0 x) 0 i := fun i ⟨u, d', hu, hd', _⟩ => by
    rw [setTh_other _ _ hu, hc u hu] at hd'
    cases hd'
  have same : s' = setTh s1 0 x → ∃ x' d', s' = setTh s1 0 x' ∧ x'.tx = some d' ∧ d'.saved = d.saved ∧ d'.cnt0 = d.cnt0 := fun e => ⟨x, d, e, hx, rfl, rfl⟩
  have acc : ∀ {v : AV} {n : Int} {g : ATx → Stm.Id → Prop}, AccA (setTh s1 0 x) 0 v n r s' g → (∀ i, g d i → ∃ x' d', s' = setTh s1 0 x' ∧ x'.tx = some d' ∧ d'.saved = d.saved ∧ d'.cnt0 = d.cnt0) → ∃ x' d', s' = setTh s1 0 x' ∧ x'.tx = some d' ∧ d'.saved = d.saved ∧ d'.cnt0 = d.cnt0 := fun {v n g} ha hg => by
    unfold AccA at ha
    rw [setTh_th, hx] at ha
    cases v with
    | inl z => exact same ha.2
    | inr i =>
      dsimp only at ha
      by_cases hn : 0 ≤ n ∧ n < ((view (setTh s1 0 x).store d i).length : Int)
      · exact hg i ((ha.yes hn).no (hnb i))
      · exact same (ha.no hn).2
  unfold StepA at h
  by_cases h0 : firstErr a = 0
  · have h := ((((h.yes h0).no hk.1).no hk.2.1).no hk.2.2)
    rw [hz.1] at h
    by_cases h4 : a.kind = 4
    · have h := h.yes h4
      unfold NewA at h
      rw [setTh_th, hx] at h
      dsimp only at h
      by_cases hn : 0 ≤ a.n ∧ a.n ≤ 6
      · rw [(h.yes hn).2, setTh_setTh]
        exact ⟨_, _, rfl, rfl, rfl, rfl⟩
      · exact same (h.no hn).2
    have h := h.no h4
    by_cases h5 : a.kind = 5
    · refine acc (h.yes h5) (fun i hg => ?_)
      rw [hg.2, setTh_setTh]
      exact ⟨_, _, rfl, rfl, rfl, rfl⟩
    have h := h.no h5
    by_cases h6 : a.kind = 6
    · refine acc (h.yes h6) (fun i hg => ?_)
      rw [hg.2, setTh_setTh]
      exact ⟨_, _, rfl, rfl, rfl, rfl⟩
    have h := h.no h6
    by_cases h7 : a.kind = 7
    · have h := h.yes h7
      unfold SetA at h
      by_cases hn : -1099511627776 ≤ a.n ∧ a.n ≤ 1099511627776
      · rw [(h.yes hn).2, setTh_setTh, setTh_th]
        exact ⟨_, d, rfl, hx, rfl, rfl⟩
      · exact same (h.no hn).2
    have h := h.no h7
    by_cases h8 : a.kind = 8
    · have h := h.yes h8
      unfold CopyA at h
      rw [hz.2 h8] at h
      rw [(h.no (fun hh => hh.1 rfl)).2, setTh_setTh, setTh_th]
      exact ⟨_, d, rfl, hx, rfl, rfl⟩
    have h := h.no h8
    by_cases h9 : a.kind = 9
    · exact same (h.yes h9).2
    exact same (h.no h9)
  · exact same (h.no h0).2

theorem more_run {s1 : AS} (hc : ∀ u, u ≠ 0 → (s1.th u).tx = none) : ∀ {l : List Stm.Act} {x : TS} {d : ATx} {rs : List Ans} {s' : AS}, x.tx = some d → RunA (setTh s1 0 x) l rs s' → (∀ a ∈ l, isMore a = true ∧ Zero a) →
    ∃ x' d', s' = setTh s1 0 x' ∧ x'.tx = some d' ∧ d'.saved = d.saved ∧ d'.cnt0 = d.cnt0 := by
  intro l
  induction l with
  | nil => intro x d rs s' hx h _; obtain ⟨_, rfl⟩ := h; exact ⟨x, d, rfl, hx, rfl, rfl⟩
  | cons a l ih =>
    intro x d rs s' hx h hl
    obtain ⟨r, rs1, s2, _, h1, h2⟩ := h
    obtain ⟨x1, d1, rfl, hx1, e1, e2⟩ := more_step hc hx h1 (hl a (by simp)).1 (hl a (by simp)).2
    obtain ⟨x2, d2, h3, h4, h5, h6⟩ := ih hx1 h2 (fun b hb => hl b (by simp [hb]))
    exact ⟨x2, d2, h3, h4, h5.trans e1, h6.trans e2⟩

/-- Begin, some acts, abort: nothing has changed. -/
theorem undone_back {s1 s' : AS} (hc : ∀ u, (s1.th u).tx = none) {l : List Stm.Act} {rs : List Ans} (h : RunA s1 ([⟨1, 0, 0, 0, 0⟩] ++ l ++ [⟨3, 0, 0, 0, 0⟩]) rs s') (hl : ∀ a ∈ l, isMore a = true ∧ Zero a) : s' = s1 := by
  obtain ⟨r1, r2, s2, _, _, h1, h2⟩ := RunA.split h
  obtain ⟨r3, r4, s3, _, _, h3, h4⟩ := RunA.split h1
  obtain ⟨q, qs, s4, _, h5, _, h6⟩ := h3
  obtain ⟨q', qs', s5, _, h7, _, h8⟩ := h2
  subst h6 h8
  have hb : BeginA s1 0 q s3 := (h5.yes (by decide)).yes rfl
  unfold BeginA at hb
  rw [hc 0] at hb
  obtain ⟨_, rfl⟩ := hb
  obtain ⟨x, d, rfl, hx, e1, e2⟩ := more_run (fun u _ => hc u) rfl h4 hl
  have ha : AbortA (setTh s1 0 x) 0 q' s' := (((h7.yes (by decide)).no (by decide)).no (by decide)).yes rfl
  unfold AbortA at ha
  rw [setTh_th, hx] at ha
  rw [ha.2, setTh_setTh]
  have : undoT d = s1.th 0 := by
    unfold undoT
    rw [e1, e2]
    have := hc 0
    cases hx0 : s1.th 0 with
    | mk a b c => rw [hx0] at this; dsimp only at this ⊢; rw [this]
  rw [this, setTh_id]

/-- After an abort, others read what they read before the transaction. -/
theorem undone_same {AL G M : List Stm.Act} {xs ys : List Ans} {c c2 : Mc} {lf lf2 : List Nat} (h1 : RunC 400 (AL ++ aborts 4 ++ G) xs c lf) (h2 : RunC 400 (AL ++ aborts 4 ++ ([⟨1, 0, 0, 0, 0⟩] ++ M ++ [⟨3, 0, 0, 0, 0⟩]) ++ G) ys c2 lf2)
    (hl : (AL ++ aborts 4 ++ ([(⟨1, 0, 0, 0, 0⟩ : Stm.Act)] ++ M ++ [(⟨3, 0, 0, 0, 0⟩ : Stm.Act)]) ++ G).length ≤ 400) (hs : Small (AL ++ aborts 4 ++ ([⟨1, 0, 0, 0, 0⟩] ++ M ++ [⟨3, 0, 0, 0, 0⟩]) ++ G)) (hn : news (AL ++ aborts 4 ++ ([(⟨1, 0, 0, 0, 0⟩ : Stm.Act)] ++ M ++ [(⟨3, 0, 0, 0, 0⟩ : Stm.Act)]) ++ G) ≤ 79)
    (hM : ∀ a ∈ M, isMore a = true ∧ Zero a) (hcA : ∀ a ∈ AL, ¬ Stm.Clean a) (hcG : ∀ a ∈ G, ¬ Stm.Clean a) : ∃ r1 r2 r3, xs = r1 ++ r3 ∧ ys = r1 ++ r2 ++ r3 ∧ r1.length = AL.length + 4 ∧ r2.length = M.length + 2 ∧ r3.length = G.length := by
  have hl1 : (AL ++ aborts 4 ++ G).length ≤ 400 := by simp at hl ⊢; omega
  have hs1 : Small (AL ++ aborts 4 ++ G) := fun a ha => hs a (by simp at ha ⊢; rcases ha with h | h | h <;> simp [h])
  have hn1 : news (AL ++ aborts 4 ++ G) ≤ 79 := by simp only [news_append] at hn ⊢; omega
  obtain ⟨q1, q2, c1, lf1, rfl, k1, _⟩ := h1.steps (AL ++ aborts 4) G rfl
  have hs0 : Small (AL ++ aborts 4) := fun a ha => hs1 a (List.mem_append.2 (.inl ha))
  have hn0 : news (AL ++ aborts 4) ≤ 79 := by rw [news_append] at hn1; omega
  have hl0 : (AL ++ aborts 4).length ≤ 400 := by rw [List.length_append] at hl1; omega
  obtain ⟨⟨s1, nm1, a1, w1, m1⟩, _⟩ := sim_run k1 hl0 hs0 hn0
  have hg := k1.good (by omega) (by omega)
  have hsh := aborts_shut 4 (by omega) k1
  have hc : ∀ u, (s1.th u).tx = none := fun u => by
    refine m1.shutA ?_
    rcases Nat.lt_or_ge u 4 with h5 | h5
    · rw [hsh u h5]; decide
    · rw [hg.inv.high u h5]; decide
  have hcl : ∀ a ∈ AL ++ aborts 4, ¬ Stm.Clean a := fun a ha => by
    rcases List.mem_append.1 ha with h | h
    · exact hcA a h
    · unfold aborts at h
      obtain ⟨i, _, rfl⟩ := List.mem_map.1 h
      unfold Stm.Clean
      dsimp only
      omega
  obtain ⟨⟨s, nm, b1, _, _⟩, _⟩ := sim_run h1 hl1 hs1 hn1
  obtain ⟨⟨t, nm', b2, _, _⟩, _⟩ := sim_run h2 hl hs hn
  obtain ⟨r1, r2, sx, e1, l1, d1, d2⟩ := RunA.split b1
  obtain ⟨p1, p3, sy, e2, l2, d3, d4⟩ := RunA.split b2
  obtain ⟨p4, p5, sz, e3, l3, d5, d6⟩ := RunA.split d3
  obtain ⟨f1, rfl⟩ := RunA.det hcl d1 a1
  obtain ⟨f2, rfl⟩ := RunA.det hcl d5 a1
  obtain rfl := undone_back hc d6 hM
  obtain ⟨f3, _⟩ := RunA.det hcG d4 d2
  refine ⟨r1, p5, r2, e1, ?_, ?_, ?_, ?_⟩
  · rw [e2, e3, f2, f1, f3]
  · rw [l1, List.length_append, aborts_length]
  · have := d6.length; rw [this]; simp
  · exact d2.length

/-! ### What is read in the end -/
def gN (t r n : Nat) : List Stm.Act := (List.range n).map fun j : Nat => (⟨5, (t : Int), 3, (r : Int), (j : Int)⟩ : Stm.Act)
def gR (t r : Nat) : List Stm.Act := (List.range r).flatMap fun q : Nat => gN t q 3
def gT (t : Nat) : List Stm.Act := (List.range t).flatMap fun u : Nat => (⟨1, (u : Int), 0, 0, 0⟩ : Stm.Act) :: (gR u 4 ++ [⟨3, (u : Int), 0, 0, 0⟩])
theorem gN_succ (t r n : Nat) : gN t r (n + 1) = gN t r n ++ [⟨5, (t : Int), 3, (r : Int), (n : Int)⟩] := by simp [gN, List.range_succ]
theorem gR_succ (t r : Nat) : gR t (r + 1) = gR t r ++ gN t r 3 := by simp [gR, List.range_succ]
theorem gT_succ (t : Nat) : gT (t + 1) = gT t ++ ((⟨1, (t : Int), 0, 0, 0⟩ : Stm.Act) :: (gR t 4 ++ [⟨3, (t : Int), 0, 0, 0⟩])) := by simp [gT, List.range_succ]
theorem gN_length (t r n : Nat) : (gN t r n).length = n := by simp [gN]
theorem gR_length (t : Nat) : ∀ r, (gR t r).length = 3 * r
  | 0 => rfl
  | r + 1 => by rw [gR_succ, List.length_append, gR_length t r, gN_length]; omega
theorem gT_length : ∀ t, (gT t).length = 14 * t
  | 0 => rfl
  | t + 1 => by rw [gT_succ, List.length_append, gT_length t]; simp [gR_length]; omega
theorem gT_kind {t : Nat} {a : Stm.Act} (h : a ∈ gT t) : a.kind = 1 ∨ a.kind = 3 ∨ a.kind = 5 := by
  unfold gT at h
  obtain ⟨u, _, h⟩ := List.mem_flatMap.1 h
  rcases List.mem_cons.1 h with rfl | h
  · exact .inl rfl
  · rcases List.mem_append.1 h with h | h
    · unfold gR at h
      obtain ⟨q, _, h⟩ := List.mem_flatMap.1 h
      unfold gN at h
      obtain ⟨j, _, rfl⟩ := List.mem_map.1 h
      exact .inr (.inr rfl)
    · simp at h
      subst h
      exact .inr (.inl rfl)
end Go.Proofs.Ytpdcaoagpjcgbac

