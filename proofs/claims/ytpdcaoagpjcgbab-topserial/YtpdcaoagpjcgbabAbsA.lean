/-
  Plain mathematics of threads with transactions, without addresses: what holds between two acts. No program is named here. It proves no statement by itself.
-/
import Derived.Test.YtpdcaoagpjcgbabStmA
set_option linter.unusedVariables false
set_option linter.unusedSimpArgs false
namespace Go.Proofs.Ytpdcaoagpjcgbab.Stm

/-- How many objects of a thread are committed. -/
def ccnt (x : TS) : Nat := match x.tx with | some d => d.cnt0 | none => x.cnt
/-- No open transaction has made the object. -/
def Com (s : AS) (i : Id) : Prop := i.2 < ccnt (s.th i.1)
/-- What a thread may know. -/
def VisT (C : Id → Prop) (t : Nat) (x : TS) (i : Id) : Prop := C i ∨ (i.1 = t ∧ i.2 < x.cnt)

structure WfTx (C : Id → Prop) (t : Nat) (x : TS) (d : ATx) : Prop where
  cnt : d.cnt0 ≤ x.cnt
  saved : ∀ r i, d.saved r = .inr i → C i
  reads : ∀ i, d.reads i → C i
  overK : ∀ i vs, d.over i = some vs → VisT C t x i
  overV : ∀ i vs, d.over i = some vs → ∀ j, .inr j ∈ vs → VisT C t x j
  fresh : ∀ c, d.cnt0 ≤ c → c < x.cnt → (d.over (t, c)).isSome = true
structure WfT (C : Id → Prop) (t : Nat) (x : TS) : Prop where
  regs : ∀ r i, x.regs r = .inr i → VisT C t x i
  tx : ∀ d, x.tx = some d → WfTx C t x d

structure Wf (s : AS) : Prop where
  th : ∀ t, WfT (Com s) t (s.th t)
  store : ∀ i, Com s i → ∀ j, .inr j ∈ s.store i → Com s j
  excl : ∀ t u d d', t ≠ u → (s.th t).tx = some d → (s.th u).tx = some d' → ∀ i, (d.over i).isSome = true → d'.over i = none

theorem VisT.mono {C C' : Id → Prop} {t : Nat} {x : TS} {i : Id} (h : VisT C t x i) (hc : ∀ j, C j → C' j) : VisT C' t x i := h.imp (hc i) id
theorem WfT.mono {C C' : Id → Prop} {t : Nat} {x : TS} (h : WfT C t x) (hc : ∀ j, C j → C' j) : WfT C' t x :=
  ⟨fun r i e => (h.regs r i e).mono hc, fun d hd => ⟨(h.tx d hd).cnt, fun r i e => hc i ((h.tx d hd).saved r i e), fun i e => hc i ((h.tx d hd).reads i e), fun i vs e => ((h.tx d hd).overK i vs e).mono hc, fun i vs e j hj => ((h.tx d hd).overV i vs e j hj).mono hc, (h.tx d hd).fresh⟩⟩

theorem Wf.init : Wf AS.init :=
  ⟨fun t => ⟨fun r i h => (by cases h), fun d h => (by cases h)⟩, fun i h => (by simp [Com, ccnt, AS.init] at h), fun t u d d' _ h => (by cases h)⟩

theorem com_setTh {s : AS} {t : Nat} {x : TS} (h : ccnt x = ccnt (s.th t)) : Com (setTh s t x) = Com s := by
  funext i
  unfold Com
  by_cases e : i.1 = t
  · rw [e, setTh_th, h]
  · rw [setTh_other _ _ e]

/-- A thread turns by itself. -/
theorem Wf.setTh {s : AS} (h : Wf s) {t : Nat} {x : TS} (hc : ccnt x = ccnt (s.th t)) (hx : WfT (Com s) t x)
    (he : ∀ u d d', u ≠ t → x.tx = some d → (s.th u).tx = some d' → ∀ i, ¬ ((d.over i).isSome = true ∧ (d'.over i).isSome = true)) : Wf (setTh s t x) := by
  refine ⟨fun u => ?_, ?_, fun u v d d' hne hu hv i hi => ?_⟩
  · rw [com_setTh hc]
    by_cases e : u = t
    · subst e; rw [setTh_th]; exact hx
    · rw [setTh_other _ _ e]; exact h.th u
  · rw [com_setTh hc]; exact h.store
  · by_cases e : u = t
    · subst e
      rw [setTh_th] at hu
      rw [setTh_other _ _ (Ne.symm hne)] at hv
      have := he v d d' (Ne.symm hne) hu hv i
      cases hd : d'.over i with
      | none => rfl
      | some y => exact absurd ⟨hi, by simp [hd]⟩ this
    · rw [setTh_other _ _ e] at hu
      by_cases e2 : v = t
      · subst e2
        rw [setTh_th] at hv
        have := he u d' d hne hv hu i
        cases hd : d'.over i with
        | none => rfl
        | some y => exact absurd ⟨by simp [hd], hi⟩ this
      · rw [setTh_other _ _ e2] at hv
        exact h.excl u v d d' hne hu hv i hi

theorem ccnt_open {x : TS} {d : ATx} (h : x.tx = some d) : ccnt x = d.cnt0 := by unfold ccnt; rw [h]
theorem ccnt_shut {x : TS} (h : x.tx = none) : ccnt x = x.cnt := by unfold ccnt; rw [h]

theorem Wf.undo {s : AS} (h : Wf s) {t : Nat} {d : ATx} (hd : (s.th t).tx = some d) : Wf (Stm.setTh s t (undoT d)) := by
  refine h.setTh (by rw [ccnt_open hd]; rfl) ⟨fun r i e => .inl (((h.th t).tx d hd).saved r i e), fun d' e => (by cases e)⟩ (fun u d1 d' _ e => (by cases e))

/-- What a transaction sees is what its thread may know. -/
theorem Wf.view {s : AS} (h : Wf s) {t : Nat} {d : ATx} (hd : (s.th t).tx = some d) {i : Id} (hi : VisT (Com s) t (s.th t) i) {j : Id} (hj : .inr j ∈ view s.store d i) : VisT (Com s) t (s.th t) j := by
  unfold Stm.view at hj
  cases ho : d.over i with
  | some vs => rw [ho] at hj; exact ((h.th t).tx d hd).overV i vs ho j hj
  | none =>
    rw [ho] at hj
    rcases hi with hi | ⟨h1, h2⟩
    · exact .inl (h.store i hi j hj)
    · obtain ⟨i1, i2⟩ := i
      dsimp only at h1 h2
      subst h1
      rcases Nat.lt_or_ge i2 d.cnt0 with h3 | h3
      · exact .inl (h.store _ (by unfold Com; rw [ccnt_open hd]; exact h3) j hj)
      · have := ((h.th i1).tx d hd).fresh i2 h3 h2
        rw [ho] at this
        cases this

theorem Wf.readsCom {s : AS} (h : Wf s) {t : Nat} {d : ATx} (hd : (s.th t).tx = some d) {i : Id} (hi : VisT (Com s) t (s.th t) i) (ho : d.over i = none) : Com s i := by
  rcases hi with hi | ⟨h1, h2⟩
  · exact hi
  · obtain ⟨i1, i2⟩ := i
    dsimp only at h1 h2
    subst h1
    rcases Nat.lt_or_ge i2 d.cnt0 with h3 | h3
    · unfold Com; rw [ccnt_open hd]; exact h3
    · have := ((h.th i1).tx d hd).fresh i2 h3 h2
      rw [ho] at this
      cases this

theorem Wf.notCom {s : AS} (h : Wf s) {t : Nat} {d : ATx} (hd : (s.th t).tx = some d) : ¬ Com s (t, (s.th t).cnt) := by
  unfold Com
  rw [ccnt_open hd]
  have := ((h.th t).tx d hd).cnt
  dsimp only
  omega

theorem Wf.begin {s : AS} (h : Wf s) {t : Nat} (hd : (s.th t).tx = none) : Wf (Stm.setTh s t ⟨(s.th t).regs, (s.th t).cnt, some ⟨(s.th t).regs, (s.th t).cnt, fun _ => False, fun _ => none, False⟩⟩) := by
  have hreg : ∀ r i, (s.th t).regs r = .inr i → Com s i := fun r i e => by
    rcases (h.th t).regs r i e with h1 | ⟨h1, h2⟩
    · exact h1
    · unfold Com; rw [h1, ccnt_shut hd]; exact h2
  refine h.setTh (by rw [ccnt_shut hd]; rfl) ⟨fun r i e => .inl (hreg r i e), fun d' e => ?_⟩ (fun u d1 d' _ e _ i hh => ?_)
  · injection e with e
    subst e
    exact ⟨Nat.le_refl _, hreg, fun i e => e.elim, fun i vs e => (by cases e), fun i vs e => (by cases e), fun c h1 h2 => absurd h1 (by dsimp only at h2 ⊢; omega)⟩
  · injection e with e
    subst e
    simp at hh

theorem Wf.commit {s : AS} (h : Wf s) {t : Nat} {d : ATx} (hd : (s.th t).tx = some d) : Wf (committed s t d) := by
  have hth : ∀ u, u ≠ t → (committed s t d).th u = markT d.over (s.th u) := fun u e => by simp [committed, e]
  have htt : (committed s t d).th t = ⟨(s.th t).regs, (s.th t).cnt, none⟩ := by simp [committed]
  have hcu : ∀ u, u ≠ t → ccnt ((committed s t d).th u) = ccnt (s.th u) := fun u e => by
    rw [hth u e]
    unfold ccnt markT
    cases (s.th u).tx <;> rfl
  have hsub : ∀ i, Com s i → Com (committed s t d) i := fun i hi => by
    unfold Com at hi ⊢
    by_cases e : i.1 = t
    · rw [e, htt, ccnt_shut rfl]
      rw [e, ccnt_open hd] at hi
      have := ((h.th t).tx d hd).cnt
      dsimp only
      omega
    · rw [hcu _ e]; exact hi
  have hvis : ∀ i, VisT (Com s) t (s.th t) i → Com (committed s t d) i := fun i hi => by
    rcases hi with hi | ⟨h1, h2⟩
    · exact hsub i hi
    · unfold Com
      rw [h1, htt, ccnt_shut rfl]
      exact h2
  refine ⟨fun u => ?_, fun i hi j hj => ?_, fun u v e e' hne hu hv i hi => ?_⟩
  · by_cases e : u = t
    · subst e
      rw [htt]
      exact ⟨fun r i e => .inl (hvis i ((h.th u).regs r i e)), fun d' e => (by cases e)⟩
    · rw [hth u e]
      have hw := (h.th u).mono hsub
      refine ⟨hw.regs, fun d' e' => ?_⟩
      unfold markT at e'
      cases hx : (s.th u).tx with
      | none => rw [hx] at e'; cases e'
      | some d0 =>
        rw [hx] at e'
        injection e' with e'
        subst e'
        have := hw.tx d0 hx
        exact ⟨this.cnt, this.saved, this.reads, this.overK, this.overV, this.fresh⟩
  · have hj' : .inr j ∈ (d.over i).getD (s.store i) := hj
    cases ho : d.over i with
    | some vs => rw [ho] at hj'; exact hvis j (((h.th t).tx d hd).overV i vs ho j hj')
    | none =>
      rw [ho] at hj'
      refine hsub j (h.store i ?_ j hj')
      by_cases e : i.1 = t
      · refine h.readsCom hd (.inr ⟨e, ?_⟩) ho
        unfold Com at hi
        rw [e, htt, ccnt_shut rfl] at hi
        exact hi
      · unfold Com at hi
        rw [hcu _ e] at hi
        exact hi
  · by_cases e1 : u = t
    · subst e1; rw [htt] at hu; cases hu
    · by_cases e2 : v = t
      · subst e2; rw [htt] at hv; cases hv
      · rw [hth u e1] at hu
        rw [hth v e2] at hv
        unfold markT at hu hv
        cases hx : (s.th u).tx with
        | none => rw [hx] at hu; cases hu
        | some d0 =>
          cases hy : (s.th v).tx with
          | none => rw [hy] at hv; cases hv
          | some d1 =>
            rw [hx] at hu; rw [hy] at hv
            injection hu with hu
            injection hv with hv
            subst hu hv
            exact h.excl u v d0 d1 hne hx hy i hi

theorem WfT.setReg {C : Id → Prop} {t : Nat} {x : TS} (h : WfT C t x) (A : Nat) {v : AV} (hv : ∀ i, v = .inr i → VisT C t x i) : WfT C t (setReg x A v) := by
  refine ⟨fun r i e => ?_, fun d hd => (let y := h.tx d hd; ⟨y.cnt, y.saved, y.reads, y.overK, y.overV, y.fresh⟩)⟩
  have e' : upd x.regs A v r = .inr i := e
  by_cases hr : r = A
  · subst hr; rw [upd_same] at e'; exact hv i e'
  · rw [upd_other _ _ hr] at e'; exact h.regs r i e'

theorem Wf.setReg {s : AS} (h : Wf s) (t A : Nat) {v : AV} (hv : ∀ i, v = .inr i → VisT (Com s) t (s.th t) i) : Wf (Stm.setTh s t (Stm.setReg (s.th t) A v)) := by
  refine h.setTh ?_ ((h.th t).setReg A hv) (fun u d d' hne hu hv i hh => ?_)
  · unfold ccnt Stm.setReg; rfl
  · have := h.excl t u d d' (Ne.symm hne) hu hv i hh.1
    rw [this] at hh
    exact absurd hh.2 (by simp)

theorem Wf.new {s : AS} (h : Wf s) {t : Nat} {d : ATx} (hd : (s.th t).tx = some d) (A n : Nat) : Wf (Stm.setTh s t (newT t (s.th t) d A n)) := by
  have w := (h.th t).tx d hd
  have hvis : ∀ i, VisT (Com s) t (s.th t) i → VisT (Com s) t (newT t (s.th t) d A n) i := fun i hi => hi.imp id (fun h => ⟨h.1, Nat.lt_succ_of_lt h.2⟩)
  refine h.setTh (by rw [ccnt_open hd]; rfl) ⟨fun r i e => ?_, fun d' e => ?_⟩ (fun u d1 d' hne e hu i hh => ?_)
  · have e' : upd (s.th t).regs A (.inr (t, (s.th t).cnt)) r = .inr i := e
    by_cases hr : r = A
    · subst hr
      rw [upd_same] at e'
      injection e' with e'
      subst e'
      exact .inr ⟨rfl, Nat.lt_succ_self _⟩
    · rw [upd_other _ _ hr] at e'
      exact hvis i ((h.th t).regs r i e')
  · injection e with e
    subst e
    refine ⟨Nat.le_succ_of_le w.cnt, w.saved, w.reads, fun i vs e => ?_, fun i vs e j hj => ?_, fun c h1 h2 => ?_⟩
    · by_cases hi : i = (t, (s.th t).cnt)
      · subst hi; exact .inr ⟨rfl, Nat.lt_succ_self _⟩
      · have e' : updI d.over (t, (s.th t).cnt) (some (List.replicate n (.inl 0))) i = some vs := e
        rw [updI_other _ _ hi] at e'
        exact hvis i (w.overK i vs e')
    · have e' : updI d.over (t, (s.th t).cnt) (some (List.replicate n (.inl 0))) i = some vs := e
      by_cases hi : i = (t, (s.th t).cnt)
      · subst hi
        rw [updI_same] at e'
        injection e' with e'
        subst e'
        have := (List.mem_replicate.1 hj).2
        cases this
      · rw [updI_other _ _ hi] at e'
        exact hvis j (w.overV i vs e' j hj)
    · show (updI d.over (t, (s.th t).cnt) (some (List.replicate n (.inl 0))) (t, c)).isSome = true
      by_cases hc : c = (s.th t).cnt
      · subst hc; rw [updI_same]; rfl
      · rw [updI_other _ _ (by intro e; injection e; contradiction)]
        exact w.fresh c h1 (by have : c < (s.th t).cnt + 1 := h2; omega)
  · injection e with e
    subst e
    have h1 : (updI d.over (t, (s.th t).cnt) (some (List.replicate n (.inl 0))) i).isSome = true := hh.1
    by_cases hi : i = (t, (s.th t).cnt)
    · subst hi
      obtain ⟨vs, hvs⟩ := Option.isSome_iff_exists.1 hh.2
      rcases ((h.th u).tx d' hu).overK _ vs hvs with h2 | ⟨h2, _⟩
      · exact h.notCom hd h2
      · exact hne h2.symm
    · rw [updI_other _ _ hi] at h1
      have := h.excl t u d d' (Ne.symm hne) hd hu i h1
      rw [this] at hh
      exact absurd hh.2 (by simp)

theorem mem_of_getD {vs : List AV} {n : Nat} {i : Id} (h : vs.getD n (.inl 0) = .inr i) : .inr i ∈ vs := by
  rw [List.getD_eq_getElem?_getD] at h
  cases e : vs[n]? with
  | none => rw [e] at h; cases h
  | some v =>
    rw [e] at h
    simp at h
    subst h
    exact List.mem_of_getElem? e

theorem Wf.get {s : AS} (h : Wf s) {t : Nat} {d : ATx} (hd : (s.th t).tx = some d) (A n : Nat) {i : Id} (hi : VisT (Com s) t (s.th t) i) : Wf (Stm.setTh s t (getT s.store (s.th t) d A i n)) := by
  have w := (h.th t).tx d hd
  refine h.setTh (by rw [ccnt_open hd]; rfl) ⟨fun r j e => ?_, fun d' e => ?_⟩ (fun u d1 d' hne e hu j hh => ?_)
  · have e' : upd (s.th t).regs A ((Stm.view s.store d i).getD n (.inl 0)) r = .inr j := e
    by_cases hr : r = A
    · subst hr
      rw [upd_same] at e'
      exact h.view hd hi (mem_of_getD e')
    · rw [upd_other _ _ hr] at e'
      exact (h.th t).regs r j e'
  · injection e with e
    subst e
    refine ⟨w.cnt, w.saved, fun j hj => ?_, w.overK, w.overV, w.fresh⟩
    rcases hj with hj | ⟨rfl, ho⟩
    · exact w.reads j hj
    · exact h.readsCom hd hi ho
  · injection e with e
    subst e
    have := h.excl t u d d' (Ne.symm hne) hd hu j hh.1
    rw [this] at hh
    exact absurd hh.2 (by simp)

theorem Wf.put {s : AS} (h : Wf s) {t : Nat} {d : ATx} (hd : (s.th t).tx = some d) (B n : Nat) {i : Id} (hi : VisT (Com s) t (s.th t) i) (hb : ¬ Busy s t i) : Wf (Stm.setTh s t (putT s.store (s.th t) d B i n)) := by
  have w := (h.th t).tx d hd
  refine h.setTh (by rw [ccnt_open hd]; rfl) ⟨(h.th t).regs, fun d' e => ?_⟩ (fun u d1 d' hne e hu j hh => ?_)
  · injection e with e
    subst e
    refine ⟨w.cnt, w.saved, w.reads, fun j vs e => ?_, fun j vs e q hq => ?_, fun c h1 h2 => ?_⟩
    · by_cases hj : j = i
      · subst hj; exact hi
      · have e' : updI d.over i (some ((Stm.view s.store d i).set n ((s.th t).regs B))) j = some vs := e
        rw [updI_other _ _ hj] at e'
        exact w.overK j vs e'
    · have e' : updI d.over i (some ((Stm.view s.store d i).set n ((s.th t).regs B))) j = some vs := e
      by_cases hj : j = i
      · subst hj
        rw [updI_same] at e'
        injection e' with e'
        subst e'
        rcases List.mem_or_eq_of_mem_set hq with h3 | h3
        · exact h.view hd hi h3
        · exact (h.th t).regs B q h3.symm
      · rw [updI_other _ _ hj] at e'
        exact w.overV j vs e' q hq
    · show (updI d.over i (some ((Stm.view s.store d i).set n ((s.th t).regs B))) (t, c)).isSome = true
      by_cases hj : (t, c) = i
      · subst hj; rw [updI_same]; rfl
      · rw [updI_other _ _ hj]; exact w.fresh c h1 h2
  · injection e with e
    subst e
    have h1 : (updI d.over i (some ((Stm.view s.store d i).set n ((s.th t).regs B))) j).isSome = true := hh.1
    by_cases hj : j = i
    · subst hj
      exact hb ⟨u, d', hne, hu, hh.2⟩
    · rw [updI_other _ _ hj] at h1
      have := h.excl t u d d' (Ne.symm hne) hd hu j h1
      rw [this] at hh
      exact absurd hh.2 (by simp)

/-- What an act of threads may do. -/
inductive Way (s : AS) (a : Act) (r : Ans) (s' : AS) : Prop where
  | err (e : Int) (he : e ≠ 0) (h6 : e ≠ 6) (hr : r = .err e) (hs : s' = s)
  | clean (hc : Clean a) (hs : s' = s)
  | busy (d : ATx) (h0 : firstErr a = 0) (hd : (s.th a.t.toNat).tx = some d) (hr : r = .err 6) (hs : s' = setTh s a.t.toNat (undoT d))
  | begin (h0 : firstErr a = 0) (hk : a.kind = 1) (hd : (s.th a.t.toNat).tx = none) (hr : r = .ok) (hs : s' = setTh s a.t.toNat ⟨(s.th a.t.toNat).regs, (s.th a.t.toNat).cnt, some ⟨(s.th a.t.toNat).regs, (s.th a.t.toNat).cnt, fun _ => False, fun _ => none, False⟩⟩)
  | commit (d : ATx) (h0 : firstErr a = 0) (hk : a.kind = 2) (hd : (s.th a.t.toNat).tx = some d) (hn : ¬ (d.stale ∨ ∃ i, d.reads i ∧ Busy s a.t.toNat i)) (hr : r = .ok) (hs : s' = committed s a.t.toNat d)
  | abort (d : ATx) (h0 : firstErr a = 0) (hk : a.kind = 3) (hd : (s.th a.t.toNat).tx = some d) (hr : r = .ok) (hs : s' = setTh s a.t.toNat (undoT d))
  | new (d : ATx) (h0 : firstErr a = 0) (hk : a.kind = 4) (hd : (s.th a.t.toNat).tx = some d) (hn : 0 ≤ a.n ∧ a.n ≤ 6) (hr : r = .ok) (hs : s' = setTh s a.t.toNat (newT a.t.toNat (s.th a.t.toNat) d a.a.toNat a.n.toNat))
  | get (d : ATx) (i : Id) (h0 : firstErr a = 0) (hk : a.kind = 5) (hd : (s.th a.t.toNat).tx = some d) (hi : (s.th a.t.toNat).regs a.b.toNat = .inr i) (hn : 0 ≤ a.n ∧ a.n < ((view s.store d i).length : Int)) (hb : ¬ Busy s a.t.toNat i) (hr : r = told ((view s.store d i).getD a.n.toNat (.inl 0))) (hs : s' = setTh s a.t.toNat (getT s.store (s.th a.t.toNat) d a.a.toNat i a.n.toNat))
  | put (d : ATx) (i : Id) (h0 : firstErr a = 0) (hk : a.kind = 6) (hd : (s.th a.t.toNat).tx = some d) (hi : (s.th a.t.toNat).regs a.a.toNat = .inr i) (hn : 0 ≤ a.n ∧ a.n < ((view s.store d i).length : Int)) (hb : ¬ Busy s a.t.toNat i) (hr : r = .ok) (hs : s' = setTh s a.t.toNat (putT s.store (s.th a.t.toNat) d a.b.toNat i a.n.toNat))
  | set (h0 : firstErr a = 0) (hk : a.kind = 7) (hn : -1099511627776 ≤ a.n ∧ a.n ≤ 1099511627776) (hr : r = .num a.n) (hs : s' = setTh s a.t.toNat (setReg (s.th a.t.toNat) a.a.toNat (.inl a.n)))
  | copy (h0 : firstErr a = 0) (hk : a.kind = 8) (hn : ¬ (a.n.toNat ≠ a.t.toNat ∧ ((s.th a.t.toNat).tx ≠ none ∨ (s.th a.n.toNat).tx ≠ none))) (hr : r = .ok) (hs : s' = setTh s a.t.toNat (setReg (s.th a.t.toNat) a.a.toNat ((s.th a.n.toNat).regs a.b.toNat)))
  | same (h0 : firstErr a = 0) (hk : a.kind = 9) (hr : r = .same (decide ((s.th a.t.toNat).regs a.a.toNat = (s.th a.t.toNat).regs a.b.toNat))) (hs : s' = s)

theorem firstErr_cases (a : Act) : firstErr a = 0 ∨ firstErr a = 2 ∨ firstErr a = 3 := by
  unfold firstErr
  split
  · exact .inr (.inr rfl)
  · split
    · exact .inr (.inl rfl)
    · exact .inl rfl

theorem AccA.way {s : AS} {a : Act} {r : Ans} {s' : AS} {v : AV} {g : ATx → Id → Prop} (h0 : firstErr a = 0) (h : AccA s a.t.toNat v a.n r s' g) (hg : ∀ d i, (s.th a.t.toNat).tx = some d → v = .inr i → (0 ≤ a.n ∧ a.n < ((view s.store d i).length : Int)) → ¬ Busy s a.t.toNat i → g d i → Way s a r s') : Way s a r s' := by
  unfold AccA at h
  split at h
  · exact .err 5 (by omega) (by omega) h.1 h.2
  · exact .err 7 (by omega) (by omega) h.1 h.2
  · rename_i d i hd
    by_cases hn : 0 ≤ a.n ∧ a.n < ((view s.store d i).length : Int)
    · have h1 := h.yes hn
      by_cases hb : Busy s a.t.toNat i
      · exact .busy d h0 hd (h1.yes hb).1 (h1.yes hb).2
      · exact hg d i hd rfl hn hb (h1.no hb)
    · exact .err 4 (by omega) (by omega) (h.no hn).1 (h.no hn).2

theorem StepA.way {s : AS} {a : Act} {r : Ans} {s' : AS} (h : StepA s a r s') : Way s a r s' := by
  by_cases hc : Clean a
  · exact .clean hc ((StepA.clean hc).1 h)
  unfold StepA at h
  by_cases h0 : firstErr a = 0
  · have hk := firstErr_kind h0
    have h := h.yes h0
    by_cases h1 : a.kind = 1
    · have h := h.yes h1
      unfold BeginA at h
      split at h
      · exact .err 5 (by omega) (by omega) h.1 h.2
      · rename_i hd; exact .begin h0 h1 hd h.1 h.2
    have h := h.no h1
    by_cases h2 : a.kind = 2
    · have h := h.yes h2
      unfold CommitA at h
      split at h
      · exact .err 5 (by omega) (by omega) h.1 h.2
      · rename_i d hd
        by_cases hp : d.stale ∨ ∃ i, d.reads i ∧ Busy s a.t.toNat i
        · exact .busy d h0 hd (h.yes hp).1 (h.yes hp).2
        · exact .commit d h0 h2 hd hp (h.no hp).1 (h.no hp).2
    have h := h.no h2
    by_cases h3 : a.kind = 3
    · have h := h.yes h3
      unfold AbortA at h
      split at h
      · exact .err 5 (by omega) (by omega) h.1 h.2
      · rename_i d hd; exact .abort d h0 h3 hd h.1 h.2
    have h := h.no h3
    by_cases h4 : a.kind = 4
    · have h := h.yes h4
      unfold NewA at h
      split at h
      · exact .err 5 (by omega) (by omega) h.1 h.2
      · rename_i d hd
        by_cases hp : 0 ≤ a.n ∧ a.n ≤ 6
        · exact .new d h0 h4 hd hp (h.yes hp).1 (h.yes hp).2
        · exact .err 2 (by omega) (by omega) (h.no hp).1 (h.no hp).2
    have h := h.no h4
    by_cases h5 : a.kind = 5
    · exact AccA.way h0 (h.yes h5) fun d i hd hi hn hb hg => .get d i h0 h5 hd hi hn hb hg.1 hg.2
    have h := h.no h5
    by_cases h6 : a.kind = 6
    · exact AccA.way h0 (h.yes h6) fun d i hd hi hn hb hg => .put d i h0 h6 hd hi hn hb hg.1 hg.2
    have h := h.no h6
    by_cases h7 : a.kind = 7
    · have h := h.yes h7
      unfold SetA at h
      by_cases hp : -1099511627776 ≤ a.n ∧ a.n ≤ 1099511627776
      · exact .set h0 h7 hp (h.yes hp).1 (h.yes hp).2
      · exact .err 2 (by omega) (by omega) (h.no hp).1 (h.no hp).2
    have h := h.no h7
    by_cases h8 : a.kind = 8
    · have h := h.yes h8
      unfold CopyA at h
      by_cases hp : a.n.toNat ≠ a.t.toNat ∧ ((s.th a.t.toNat).tx ≠ none ∨ (s.th a.n.toNat).tx ≠ none)
      · exact .err 5 (by omega) (by omega) (h.yes hp).1 (h.yes hp).2
      · exact .copy h0 h8 hp (h.no hp).1 (h.no hp).2
    have h := h.no h8
    by_cases h9 : a.kind = 9
    · have h := h.yes h9
      exact .same h0 h9 h.1 h.2
    exact absurd (by unfold Clean; omega) hc
  · have h := h.no h0
    rcases firstErr_cases a with e | e | e
    · exact absurd e h0
    · exact .err 2 (by omega) (by omega) (h.1.trans (by rw [e])) h.2
    · exact .err 3 (by omega) (by omega) (h.1.trans (by rw [e])) h.2

theorem Wf.step {s : AS} {a : Act} {r : Ans} {s' : AS} (w : Wf s) (h : StepA s a r s') : Wf s' := by
  cases h.way with
  | err e _ _ _ hs => rw [hs]; exact w
  | clean _ hs => rw [hs]; exact w
  | busy d _ hd _ hs => rw [hs]; exact w.undo hd
  | begin _ _ hd _ hs => rw [hs]; exact w.begin hd
  | commit d _ _ hd _ _ hs => rw [hs]; exact w.commit hd
  | abort d _ _ hd _ hs => rw [hs]; exact w.undo hd
  | new d _ _ hd _ _ hs => rw [hs]; exact w.new hd _ _
  | get d i _ _ hd hi _ _ _ hs => rw [hs]; exact w.get hd _ _ ((w.th _).regs _ i hi)
  | put d i _ _ hd hi _ hb _ hs => rw [hs]; exact w.put hd _ _ ((w.th _).regs _ i hi) hb
  | set _ _ _ _ hs => rw [hs]; exact w.setReg _ _ (fun i e => by cases e)
  | copy _ _ hn _ hs =>
    rw [hs]
    refine w.setReg _ _ (fun i e => ?_)
    by_cases he : a.n.toNat = a.t.toNat
    · rw [he] at e; exact (w.th _).regs _ i e
    · have h2 : (s.th a.n.toNat).tx = none := Classical.byContradiction fun hh => hn ⟨he, .inr hh⟩
      rcases (w.th _).regs _ i e with h3 | ⟨h3, h4⟩
      · exact .inl h3
      · refine .inl ?_
        unfold Com
        rw [h3, ccnt_shut h2]
        exact h4
  | same _ _ _ hs => rw [hs]; exact w

theorem Wf.run {s s' : AS} {l : List Act} {rs : List Ans} (w : Wf s) (h : RunA s l rs s') : Wf s' := by
  induction l generalizing s rs with
  | nil => obtain ⟨_, rfl⟩ := h; exact w
  | cons a l ih =>
    obtain ⟨r, rs1, s1, rfl, h1, h2⟩ := h
    exact ih (w.step h1) h2
end Go.Proofs.Ytpdcaoagpjcgbab.Stm

/-
  Plain mathematics of threads with transactions: what committed transactions read is what they read when they are executed one by one in the order of their commits. No program is named here. It proves no statement by itself.
-/
namespace Go.Proofs.Ytpdcaoagpjcgbab.Stm

def beginT (x : TS) : TS := ⟨x.regs, x.cnt, some ⟨x.regs, x.cnt, fun _ => False, fun _ => none, False⟩⟩

/-- A good act of a thread by itself. -/
inductive OneT (st : Id → List AV) (t : Nat) : TS → Act → Ans → TS → Prop where
  | begin {x : TS} {a : Act} (hk : a.kind = 1) (hd : x.tx = none) : OneT st t x a .ok (beginT x)
  | new {x : TS} {a : Act} {d : ATx} (hk : a.kind = 4) (hd : x.tx = some d) (hn : 0 ≤ a.n ∧ a.n ≤ 6) : OneT st t x a .ok (newT t x d a.a.toNat a.n.toNat)
  | get {x : TS} {a : Act} {d : ATx} {i : Id} (hk : a.kind = 5) (hd : x.tx = some d) (hi : x.regs a.b.toNat = .inr i) (hn : 0 ≤ a.n ∧ a.n < ((view st d i).length : Int)) : OneT st t x a (told ((view st d i).getD a.n.toNat (.inl 0))) (getT st x d a.a.toNat i a.n.toNat)
  | put {x : TS} {a : Act} {d : ATx} {i : Id} (hk : a.kind = 6) (hd : x.tx = some d) (hi : x.regs a.a.toNat = .inr i) (hn : 0 ≤ a.n ∧ a.n < ((view st d i).length : Int)) : OneT st t x a .ok (putT st x d a.b.toNat i a.n.toNat)
  | set {x : TS} {a : Act} (hk : a.kind = 7) (hn : -1099511627776 ≤ a.n ∧ a.n ≤ 1099511627776) : OneT st t x a (.num a.n) (setReg x a.a.toNat (.inl a.n))
  | copy {x : TS} {a : Act} (hk : a.kind = 8) (hn : a.n.toNat = t) : OneT st t x a .ok (setReg x a.a.toNat (x.regs a.b.toNat))
  | same {x : TS} {a : Act} (hk : a.kind = 9) : OneT st t x a (.same (decide (x.regs a.a.toNat = x.regs a.b.toNat))) x

/-- Some good acts of a thread by itself. -/
def RunT (st : Id → List AV) (t : Nat) : TS → List (Act × Ans) → TS → Prop
  | x, [], x' => x' = x
  | x, p :: l, x' => ∃ x1, firstErr p.1 = 0 ∧ p.1.t.toNat = t ∧ OneT st t x p.1 p.2 x1 ∧ RunT st t x1 l x'

theorem RunT.append {st : Id → List AV} {t : Nat} {x y z : TS} {l m : List (Act × Ans)} (h1 : RunT st t x l y) (h2 : RunT st t y m z) : RunT st t x (l ++ m) z := by
  induction l generalizing x with
  | nil =>
    have h1' : y = x := h1
    subst h1'
    exact h2
  | cons p l ih =>
    obtain ⟨x1, a, b, c, d⟩ := h1
    exact ⟨x1, a, b, c, ih d⟩
theorem RunT.one {st : Id → List AV} {t : Nat} {x y : TS} {p : Act × Ans} (h0 : firstErr p.1 = 0) (ht : p.1.t.toNat = t) (h : OneT st t x p.1 p.2 y) : RunT st t x [p] y := ⟨y, h0, ht, h, rfl⟩

/-- What the thread's transaction depends on. -/
def Dep (x : TS) (i : Id) : Prop := ∃ d, x.tx = some d ∧ (d.reads i ∨ (d.over i).isSome = true)

theorem updI_some {f : Id → Option (List AV)} {i j : Id} {v : List AV} (h : (f j).isSome = true) : (updI f i (some v) j).isSome = true := by
  by_cases e : j = i
  · subst e; rw [updI_same]; rfl
  · rw [updI_other _ _ e]; exact h

theorem OneT.dep {st : Id → List AV} {t : Nat} {x x' : TS} {a : Act} {r : Ans} (h : OneT st t x a r x') {i : Id} (hi : Dep x i) : Dep x' i := by
  obtain ⟨d, hd, hi⟩ := hi
  cases h with
  | begin hk h => rw [hd] at h; cases h
  | new hk h hn =>
    obtain rfl := Option.some.inj (hd.symm.trans h)
    exact ⟨_, rfl, hi.imp id updI_some⟩
  | get hk h hj hn =>
    obtain rfl := Option.some.inj (hd.symm.trans h)
    exact ⟨_, rfl, hi.imp .inl id⟩
  | put hk h hj hn =>
    obtain rfl := Option.some.inj (hd.symm.trans h)
    exact ⟨_, rfl, hi.imp id updI_some⟩
  | set hk hn => exact ⟨d, hd, hi⟩
  | copy hk hn => exact ⟨d, hd, hi⟩
  | same hk => exact ⟨d, hd, hi⟩
theorem RunT.dep {st : Id → List AV} {t : Nat} {x x' : TS} {l : List (Act × Ans)} (h : RunT st t x l x') {i : Id} (hi : Dep x i) : Dep x' i := by
  induction l generalizing x with
  | nil =>
    have h' : x' = x := h
    subst h'
    exact hi
  | cons p l ih =>
    obtain ⟨x1, _, _, c, d⟩ := h
    exact ih d (c.dep hi)

theorem view_congr {st st' : Id → List AV} {d : ATx} {i : Id} (h : st i = st' i) : view st d i = view st' d i := by unfold view; rw [h]

theorem OneT.frame {st st' : Id → List AV} {t : Nat} {x x' : TS} {a : Act} {r : Ans} (h : OneT st t x a r x') (he : ∀ i, Dep x' i → st i = st' i) : OneT st' t x a r x' := by
  cases h with
  | begin hk h => exact .begin hk h
  | new hk h hn => exact .new hk h hn
  | @get d i hk h hj hn =>
    have e : view st d i = view st' d i := by
      cases ho : d.over i with
      | none => exact view_congr (he i ⟨_, rfl, .inl (.inr ⟨rfl, ho⟩)⟩)
      | some v => unfold view; rw [ho]; rfl
    have hg : getT st x d a.a.toNat i a.n.toNat = getT st' x d a.a.toNat i a.n.toNat := by unfold getT; rw [e]
    rw [hg, e]
    exact .get hk h hj (by rw [← e]; exact hn)
  | @put d i hk h hj hn =>
    have e : view st d i = view st' d i := by
      refine view_congr (he i ⟨_, rfl, .inr ?_⟩)
      show (updI d.over i _ i).isSome = true
      rw [updI_same]; rfl
    have hg : putT st x d a.b.toNat i a.n.toNat = putT st' x d a.b.toNat i a.n.toNat := by unfold putT; rw [e]
    rw [hg]
    exact .put hk h hj (by rw [← e]; exact hn)
  | set hk hn => exact .set hk hn
  | copy hk hn => exact .copy hk hn
  | same hk => exact .same hk
theorem RunT.frame {st st' : Id → List AV} {t : Nat} {x x' : TS} {l : List (Act × Ans)} (h : RunT st t x l x') (he : ∀ i, Dep x' i → st i = st' i) : RunT st' t x l x' := by
  induction l generalizing x with
  | nil => exact h
  | cons p l ih =>
    obtain ⟨x1, a, b, c, d⟩ := h
    exact ⟨x1, a, b, c.frame (fun i hi => he i (d.dep hi)), ih d⟩

/-- Where no other thread has a transaction, a thread's good acts are acts of the whole. -/
theorem OneT.step {S : AS} {t : Nat} {x' : TS} {a : Act} {r : Ans} (h : OneT S.store t (S.th t) a r x') (h0 : firstErr a = 0) (ht : a.t.toNat = t) (hc : ∀ u, u ≠ t → (S.th u).tx = none) : StepA S a r (setTh S t x') := by
  have hb : ∀ i, ¬ Busy S t i := fun i ⟨u, d, hu, hd, _⟩ => by rw [hc u hu] at hd; cases hd
  subst ht
  refine Ite.pos h0 ?_
  generalize hx : S.th a.t.toNat = x at h
  cases h with
  | begin hk h =>
    refine Ite.pos hk ?_
    unfold BeginA
    rw [hx, h]
    exact ⟨rfl, rfl⟩
  | new hk h hn =>
    refine Ite.neg (by omega) (Ite.neg (by omega) (Ite.neg (by omega) (Ite.pos hk ?_)))
    unfold NewA
    rw [hx, h]
    exact Ite.pos hn ⟨rfl, rfl⟩
  | get hk h hi hn =>
    refine Ite.neg (by omega) (Ite.neg (by omega) (Ite.neg (by omega) (Ite.neg (by omega) (Ite.pos hk ?_))))
    unfold GetA AccA
    rw [hx, h, hi]
    exact Ite.pos hn (Ite.neg (hb _) ⟨rfl, rfl⟩)
  | put hk h hi hn =>
    refine Ite.neg (by omega) (Ite.neg (by omega) (Ite.neg (by omega) (Ite.neg (by omega) (Ite.neg (by omega) (Ite.pos hk ?_)))))
    unfold PutA AccA
    rw [hx, h, hi]
    exact Ite.pos hn (Ite.neg (hb _) ⟨rfl, rfl⟩)
  | set hk hn =>
    refine Ite.neg (by omega) (Ite.neg (by omega) (Ite.neg (by omega) (Ite.neg (by omega) (Ite.neg (by omega) (Ite.neg (by omega) (Ite.pos hk ?_))))))
    unfold SetA
    rw [hx]
    exact Ite.pos hn ⟨rfl, rfl⟩
  | copy hk hn =>
    refine Ite.neg (by omega) (Ite.neg (by omega) (Ite.neg (by omega) (Ite.neg (by omega) (Ite.neg (by omega) (Ite.neg (by omega) (Ite.neg (by omega) (Ite.pos hk ?_)))))))
    unfold CopyA
    rw [hn, hx]
    exact Ite.neg (fun h => h.1 rfl) ⟨rfl, rfl⟩
  | same hk =>
    refine Ite.neg (by omega) (Ite.neg (by omega) (Ite.neg (by omega) (Ite.neg (by omega) (Ite.neg (by omega) (Ite.neg (by omega) (Ite.neg (by omega) (Ite.neg (by omega) (Ite.pos hk ?_))))))))
    unfold SameA
    rw [hx]
    exact ⟨rfl, by rw [← hx, setTh_id]⟩

theorem RunT.runA {S : AS} {t : Nat} {x' : TS} {l : List (Act × Ans)} (h : RunT S.store t (S.th t) l x') (hc : ∀ u, u ≠ t → (S.th u).tx = none) : RunA S (l.map Prod.fst) (l.map Prod.snd) (setTh S t x') := by
  induction l generalizing S with
  | nil =>
    have h' : x' = S.th t := h
    subst h'
    exact ⟨rfl, by rw [setTh_id]⟩
  | cons p l ih =>
    obtain ⟨x1, h0, ht, h1, h2⟩ := h
    have := ih (S := setTh S t x1) (by rw [setTh_th]; exact h2) (fun u hu => by rw [setTh_other _ _ hu]; exact hc u hu)
    rw [setTh_setTh] at this
    exact ⟨p.2, _, _, rfl, h1.step h0 ht hc, this⟩

/-! ### The order of commits -/
structure SerSt (α : Type) where
  placed : List α
  parts : Nat → List α
  opn : Nat → Nat

section
variable {α : Type} (act : α → Act) (ans : α → Ans)
def serStep (σ : SerSt α) (e : α) : SerSt α :=
  let t := (act e).t.toNat
  if ((act e).kind = 3 ∧ (ans e).code = 0) ∨ (ans e).code = 6 then ⟨σ.placed, upd σ.parts t ((σ.parts t).take (σ.opn t)), σ.opn⟩
  else if (ans e).code ≠ 0 then σ
  else if (act e).kind = 1 then ⟨σ.placed, upd σ.parts t (σ.parts t ++ [e]), upd σ.opn t (σ.parts t).length⟩
  else if (act e).kind = 8 ∧ (act e).n ≠ (act e).t then ⟨σ.placed ++ σ.parts (act e).n.toNat ++ (σ.parts t ++ [e]), upd (upd σ.parts (act e).n.toNat []) t [], σ.opn⟩
  else if (act e).kind = 2 then ⟨σ.placed ++ (σ.parts t ++ [e]), upd σ.parts t [], σ.opn⟩
  else ⟨σ.placed, upd σ.parts t (σ.parts t ++ [e]), σ.opn⟩

def prs (l : List α) : List (Act × Ans) := l.map fun e => (act e, ans e)
theorem prs_append (l m : List α) : prs act ans (l ++ m) = prs act ans l ++ prs act ans m := by simp [prs]
theorem prs_fst (l : List α) : (prs act ans l).map Prod.fst = l.map act := by simp [prs]
theorem prs_snd (l : List α) : (prs act ans l).map Prod.snd = l.map ans := by simp [prs]

structure Ser (s S : AS) (σ : SerSt α) : Prop where
  store : S.store = s.store
  shutS : ∀ u, (S.th u).tx = none
  shut : ∀ t, (s.th t).tx = none → RunT s.store t (S.th t) (prs act ans (σ.parts t)) (s.th t)
  opened : ∀ t d, (s.th t).tx = some d → ∃ pre txl, σ.parts t = pre ++ txl ∧ pre.length = σ.opn t ∧ RunT s.store t (S.th t) (prs act ans pre) (undoT d) ∧ (¬ d.stale → RunT s.store t (undoT d) (prs act ans txl) (s.th t))
  run : RunA AS.init (σ.placed.map act) (σ.placed.map ans) S

theorem Ser.start : Ser act ans AS.init AS.init ⟨[], fun _ => [], fun _ => 0⟩ :=
  ⟨rfl, fun _ => rfl, fun _ _ => rfl, fun t d h => (by cases h), ⟨rfl, rfl⟩⟩

variable {act ans}

/-- A thread adds a good act of its own. -/
theorem Ser.add {s S : AS} {σ : SerSt α} (h : Ser act ans s S σ) {e : α} {t : Nat} (ht : (act e).t.toNat = t) (h0 : firstErr (act e) = 0) {x' : TS} (h1 : OneT s.store t (s.th t) (act e) (ans e) x')
    (hst : ∀ d', x'.tx = some d' → ∃ d, (s.th t).tx = some d ∧ undoT d' = undoT d ∧ (d'.stale ↔ d.stale)) (hsn : x'.tx = none → (s.th t).tx = none) :
    Ser act ans (setTh s t x') S ⟨σ.placed, upd σ.parts t (σ.parts t ++ [e]), σ.opn⟩ := by
  have hone : RunT s.store t (s.th t) (prs act ans [e]) x' := RunT.one (p := (act e, ans e)) h0 ht h1
  refine ⟨h.store, h.shutS, fun u hu => ?_, fun u d hu => ?_, h.run⟩
  · by_cases e1 : u = t
    · subst e1
      rw [setTh_th] at hu ⊢
      simp only [upd_same]
      rw [prs_append]
      exact (h.shut u (hsn hu)).append hone
    · rw [setTh_other _ _ e1] at hu ⊢
      simp only []
      rw [upd_other _ _ e1]
      exact h.shut u hu
  · by_cases e1 : u = t
    · subst e1
      rw [setTh_th] at hu ⊢
      obtain ⟨d0, hd0, hun, hsd⟩ := hst d hu
      obtain ⟨pre, txl, h2, h3, h4, h5⟩ := h.opened u d0 hd0
      refine ⟨pre, txl ++ [e], by simp only [upd_same]; rw [h2, List.append_assoc], h3, by rw [hun]; exact h4, fun hs => ?_⟩
      rw [hun, prs_append]
      exact (h5 (fun hh => hs (hsd.2 hh))).append hone
    · rw [setTh_other _ _ e1] at hu ⊢
      simp only []
      rw [upd_other _ _ e1]
      exact h.opened u d hu

/-- A transaction is undone. -/
theorem Ser.drop {s S : AS} {σ : SerSt α} (h : Ser act ans s S σ) {t : Nat} {d : ATx} (hd : (s.th t).tx = some d) :
    Ser act ans (setTh s t (undoT d)) S ⟨σ.placed, upd σ.parts t ((σ.parts t).take (σ.opn t)), σ.opn⟩ := by
  obtain ⟨pre, txl, h2, h3, h4, _⟩ := h.opened t d hd
  refine ⟨h.store, h.shutS, fun u hu => ?_, fun u d' hu => ?_, h.run⟩
  · by_cases e1 : u = t
    · subst e1
      rw [setTh_th]
      simp only [upd_same]
      rw [h2, ← h3, List.take_left']
      · exact h4
      · rfl
    · rw [setTh_other _ _ e1] at hu ⊢
      simp only []
      rw [upd_other _ _ e1]
      exact h.shut u hu
  · by_cases e1 : u = t
    · subst e1; rw [setTh_th] at hu; cases hu
    · rw [setTh_other _ _ e1] at hu ⊢
      simp only []
      rw [upd_other _ _ e1]
      exact h.opened u d' hu

theorem Ser.begun {s S : AS} {σ : SerSt α} (h : Ser act ans s S σ) {e : α} {t : Nat} (ht : (act e).t.toNat = t) (h0 : firstErr (act e) = 0) (hd : (s.th t).tx = none) (hk : (act e).kind = 1) (hr : ans e = .ok) :
    Ser act ans (setTh s t (beginT (s.th t))) S ⟨σ.placed, upd σ.parts t (σ.parts t ++ [e]), upd σ.opn t (σ.parts t).length⟩ := by
  refine ⟨h.store, h.shutS, fun u hu => ?_, fun u d' hu => ?_, h.run⟩
  · by_cases e1 : u = t
    · subst e1; rw [setTh_th] at hu; cases hu
    · rw [setTh_other _ _ e1] at hu ⊢
      simp only []
      rw [upd_other _ _ e1]
      exact h.shut u hu
  · by_cases e1 : u = t
    · subst e1
      rw [setTh_th] at hu ⊢
      injection hu with hu
      subst hu
      have hun : undoT ⟨(s.th u).regs, (s.th u).cnt, fun _ => False, fun _ => none, False⟩ = s.th u := by
        unfold undoT
        cases hx : s.th u with
        | mk a b c => rw [hx] at hd; dsimp only at hd ⊢; rw [hd]
      refine ⟨σ.parts u, [e], by simp only [upd_same], by simp only [upd_same], ?_, fun _ => ?_⟩
      · rw [hun]; exact h.shut u hd
      · rw [hun]
        refine RunT.one (p := (act e, ans e)) h0 ht ?_
        rw [hr]
        exact .begin hk hd
    · rw [setTh_other _ _ e1] at hu ⊢
      simp only []
      rw [upd_other _ _ e1, upd_other _ _ e1]
      exact h.opened u d' hu

theorem markT_id {over : Id → Option (List AV)} {x : TS} (h : ∀ d, x.tx = some d → (d.stale ∨ ∃ i, d.reads i ∧ (over i).isSome = true) → d.stale) : markT over x = x := by
  unfold markT
  cases hx : x with
  | mk a b c =>
    cases c with
    | none => rfl
    | some d =>
      have := h d (by rw [hx])
      simp only [Option.map_some]
      have e : (d.stale ∨ ∃ i, d.reads i ∧ (over i).isSome = true) = d.stale := propext ⟨this, .inl⟩
      rw [e]

theorem Ser.commits {s S : AS} {σ : SerSt α} (h : Ser act ans s S σ) (w : Wf s) {e : α} {t : Nat} (ht : (act e).t.toNat = t) (h0 : firstErr (act e) = 0) {d : ATx} (hd : (s.th t).tx = some d) (hk : (act e).kind = 2) (hr : ans e = .ok) (hn : ¬ (d.stale ∨ ∃ i, d.reads i ∧ Busy s t i)) :
    ∃ S', Ser act ans (committed s t d) S' ⟨σ.placed ++ (σ.parts t ++ [e]), upd σ.parts t [], σ.opn⟩ := by
  obtain ⟨pre, txl, h2, h3, h4, h5⟩ := h.opened t d hd
  have hrun := h4.append (h5 (fun hh => hn (.inl hh)))
  rw [← prs_append, ← h2] at hrun
  rw [← h.store] at hrun
  have hA := hrun.runA (fun u _ => h.shutS u)
  rw [prs_fst, prs_snd] at hA
  have hS1 : (setTh S t (s.th t)).th t = s.th t := setTh_th _ _ _
  have hS2 : ∀ u, u ≠ t → (setTh S t (s.th t)).th u = S.th u := fun u hu => setTh_other _ _ hu
  have hnb : ¬ (d.stale ∨ ∃ i, d.reads i ∧ Busy (setTh S t (s.th t)) t i) := by
    rintro (hh | ⟨i, _, u, d', hu, hd', _⟩)
    · exact hn (.inl hh)
    · rw [hS2 u hu, h.shutS u] at hd'; cases hd'
  have hc : StepA (setTh S t (s.th t)) (act e) (ans e) (committed (setTh S t (s.th t)) t d) := by
    refine Ite.pos h0 (Ite.neg (by omega) (Ite.pos hk ?_))
    unfold CommitA
    rw [ht, hS1, hd]
    exact Ite.neg hnb ⟨hr, rfl⟩
  have hothers : ∀ u, u ≠ t → (committed (setTh S t (s.th t)) t d).th u = S.th u := fun u hu => by
    have : (committed (setTh S t (s.th t)) t d).th u = markT d.over ((setTh S t (s.th t)).th u) := by simp [committed, hu]
    rw [this, hS2 u hu]
    exact markT_id (fun d' hd' => by rw [h.shutS u] at hd'; cases hd')
  have hown : (committed (setTh S t (s.th t)) t d).th t = ⟨(s.th t).regs, (s.th t).cnt, none⟩ := by simp [committed, hS1]
  have hstore : (committed (setTh S t (s.th t)) t d).store = (committed s t d).store := by
    funext i
    show (d.over i).getD (S.store i) = (d.over i).getD (s.store i)
    rw [h.store]
  have hsth : ∀ u, u ≠ t → (committed s t d).th u = markT d.over (s.th u) := fun u hu => by simp [committed, hu]
  have hstt : (committed s t d).th t = ⟨(s.th t).regs, (s.th t).cnt, none⟩ := by simp [committed]
  have hsame : ∀ i, d.over i = none → s.store i = (committed s t d).store i := fun i hi => by
    show s.store i = (d.over i).getD (s.store i)
    rw [hi]; rfl
  refine ⟨committed (setTh S t (s.th t)) t d, hstore, fun u => ?_, fun u hu => ?_, fun u d' hu => ?_, ?_⟩
  · by_cases e1 : u = t
    · subst e1; rw [hown]
    · rw [hothers u e1]; exact h.shutS u
  · by_cases e1 : u = t
    · subst e1
      rw [hown, hstt]
      simp only [upd_same]
      exact rfl
    · rw [hothers u e1]
      simp only []
      rw [upd_other _ _ e1]
      rw [hsth u e1] at hu ⊢
      have hx : (s.th u).tx = none := by
        unfold markT at hu
        cases hx : (s.th u).tx with
        | none => rfl
        | some d0 => rw [hx] at hu; cases hu
      rw [markT_id (fun d' hd' => by rw [hx] at hd'; cases hd')]
      exact (h.shut u hx).frame (fun i ⟨d0, hd0, _⟩ => by rw [hx] at hd0; cases hd0)
  · by_cases e1 : u = t
    · subst e1; rw [hstt] at hu; cases hu
    · rw [hothers u e1]
      simp only []
      rw [upd_other _ _ e1]
      rw [hsth u e1] at hu ⊢
      cases hx : (s.th u).tx with
      | none =>
        unfold markT at hu
        rw [hx] at hu
        cases hu
      | some d0 =>
        have hd0 : d' = ⟨d0.saved, d0.cnt0, d0.reads, d0.over, d0.stale ∨ ∃ i, d0.reads i ∧ (d.over i).isSome = true⟩ := by
          unfold markT at hu
          rw [hx] at hu
          injection hu with hu
          exact hu.symm
        obtain ⟨pre', txl', g2, g3, g4, g5⟩ := h.opened u d0 hx
        have hun : undoT d' = undoT d0 := by rw [hd0]; rfl
        refine ⟨pre', txl', g2, g3, ?_, fun hns => ?_⟩
        · rw [hun]
          exact g4.frame (fun i ⟨d1, hd1, _⟩ => by cases hd1)
        · rw [hd0] at hns
          dsimp only at hns
          have hns0 : ¬ d0.stale := fun hh => hns (.inl hh)
          rw [hun, markT_id (fun d1 hd1 hh => absurd hh (by obtain rfl := Option.some.inj (hx.symm.trans hd1); exact hns))]
          refine (g5 hns0).frame (fun i ⟨d1, hd1, hi⟩ => ?_)
          obtain rfl := Option.some.inj (hx.symm.trans hd1)
          refine hsame i ?_
          cases ho : d.over i with
          | none => rfl
          | some vs =>
            rcases hi with hi | hi
            · exact absurd (.inr ⟨i, hi, by rw [ho]; rfl⟩) hns
            · have := w.excl u t d0 d e1 hx hd i hi
              rw [ho] at this
              cases this
  · show RunA AS.init ((σ.placed ++ (σ.parts t ++ [e])).map act) ((σ.placed ++ (σ.parts t ++ [e])).map ans) _
    rw [List.map_append, List.map_append, List.map_append, List.map_append]
    exact h.run.append (hA.append (RunA.one hc))

theorem Ser.copies {s S : AS} {σ : SerSt α} (h : Ser act ans s S σ) {e : α} {t u : Nat} (ht : (act e).t.toNat = t) (hu : (act e).n.toNat = u) (hne : u ≠ t) (h0 : firstErr (act e) = 0) (hk : (act e).kind = 8) (hr : ans e = .ok) (h1 : (s.th t).tx = none) (h2 : (s.th u).tx = none) :
    ∃ S', Ser act ans (setTh s t (setReg (s.th t) (act e).a.toNat ((s.th u).regs (act e).b.toNat))) S' ⟨σ.placed ++ σ.parts u ++ (σ.parts t ++ [e]), upd (upd σ.parts u []) t [], σ.opn⟩ := by
  have r1 := h.shut u h2
  rw [← h.store] at r1
  have a1 := r1.runA (fun v _ => h.shutS v)
  rw [prs_fst, prs_snd] at a1
  have r2 := h.shut t h1
  have e1 : (setTh S u (s.th u)).th t = S.th t := setTh_other _ _ (Ne.symm hne)
  have hcl : ∀ v, v ≠ t → ((setTh S u (s.th u)).th v).tx = none := fun v _ => by
    by_cases e : v = u
    · subst e; rw [setTh_th]; exact h2
    · rw [setTh_other _ _ e]; exact h.shutS v
  rw [← h.store] at r2
  have a2 := RunT.runA (S := setTh S u (s.th u)) (t := t) (by rw [e1]; exact r2) hcl
  rw [prs_fst, prs_snd] at a2
  have et : (setTh (setTh S u (s.th u)) t (s.th t)).th t = s.th t := setTh_th _ _ _
  have eu : (setTh (setTh S u (s.th u)) t (s.th t)).th u = s.th u := by rw [setTh_other _ _ hne, setTh_th]
  have hc : StepA (setTh (setTh S u (s.th u)) t (s.th t)) (act e) (ans e) (setTh (setTh (setTh S u (s.th u)) t (s.th t)) t (setReg (s.th t) (act e).a.toNat ((s.th u).regs (act e).b.toNat))) := by
    refine Ite.pos h0 (Ite.neg (by omega) (Ite.neg (by omega) (Ite.neg (by omega) (Ite.neg (by omega) (Ite.neg (by omega) (Ite.neg (by omega) (Ite.neg (by omega) (Ite.pos hk ?_))))))))
    unfold CopyA
    rw [ht, hu, et, eu]
    exact Ite.neg (fun hh => hh.2.elim (fun h3 => h3 h1) (fun h3 => h3 h2)) ⟨hr, rfl⟩
  rw [setTh_setTh] at hc
  refine ⟨setTh (setTh S u (s.th u)) t (setReg (s.th t) (act e).a.toNat ((s.th u).regs (act e).b.toNat)), h.store, fun v => ?_, fun v hv => ?_, fun v d hv => ?_, ?_⟩
  · by_cases e : v = t
    · subst e; rw [setTh_th]; exact h1
    · rw [setTh_other _ _ e]; exact hcl v e
  · by_cases e : v = t
    · subst e
      rw [setTh_th, setTh_th]
      simp only [upd_same]
      exact rfl
    · rw [setTh_other _ _ e, setTh_other _ _ e]
      rw [setTh_other _ _ e] at hv
      simp only []
      rw [upd_other _ _ e]
      by_cases e2 : v = u
      · subst e2
        rw [setTh_th, upd_same]
        exact rfl
      · rw [setTh_other _ _ e2, upd_other _ _ e2]
        exact h.shut v hv
  · by_cases e : v = t
    · subst e
      rw [setTh_th] at hv
      have hv' : (s.th v).tx = some d := hv
      rw [h1] at hv'
      cases hv'
    · rw [setTh_other _ _ e] at hv
      by_cases e2 : v = u
      · subst e2; rw [h2] at hv; cases hv
      · rw [setTh_other _ _ e, setTh_other _ _ e, setTh_other _ _ e2]
        simp only []
        rw [upd_other _ _ e, upd_other _ _ e2]
        exact h.opened v d hv
  · show RunA AS.init ((σ.placed ++ σ.parts u ++ (σ.parts t ++ [e])).map act) ((σ.placed ++ σ.parts u ++ (σ.parts t ++ [e])).map ans) _
    simp only [List.map_append]
    exact (h.run.append a1).append (a2.append (RunA.one hc))

theorem told_code (v : AV) : (told v).code = 0 := by cases v <;> rfl

theorem Ser.step {s s' S : AS} {σ : SerSt α} (h : Ser act ans s S σ) (w : Wf s) {e : α} (hc : ¬ Clean (act e)) (hs : StepA s (act e) (ans e) s') : ∃ S', Ser act ans s' S' (serStep act ans σ e) := by
  unfold serStep
  cases hs.way with
  | err x hx h6 hr hs =>
    subst hs
    have e1 : (ans e).code = x := by rw [hr]; rfl
    rw [if_neg (by rw [e1]; omega), if_pos (by rw [e1]; exact hx)]
    exact ⟨S, h⟩
  | clean hcl _ => exact absurd hcl hc
  | busy d h0 hd hr hs =>
    subst hs
    rw [if_pos (.inr (by rw [hr]; rfl))]
    exact ⟨S, h.drop hd⟩
  | begin h0 hk hd hr hs =>
    subst hs
    have e1 : (ans e).code = 0 := by rw [hr]; rfl
    rw [if_neg (by omega), if_neg (by omega), if_pos hk]
    exact ⟨S, h.begun rfl h0 hd hk hr⟩
  | commit d h0 hk hd hn hr hs =>
    subst hs
    have e1 : (ans e).code = 0 := by rw [hr]; rfl
    rw [if_neg (by omega), if_neg (by omega), if_neg (by omega), if_neg (by omega), if_pos hk]
    exact h.commits w rfl h0 hd hk hr hn
  | abort d h0 hk hd hr hs =>
    subst hs
    have e1 : (ans e).code = 0 := by rw [hr]; rfl
    rw [if_pos (.inl ⟨hk, e1⟩)]
    exact ⟨S, h.drop hd⟩
  | new d h0 hk hd hn hr hs =>
    subst hs
    have e1 : (ans e).code = 0 := by rw [hr]; rfl
    rw [if_neg (by omega), if_neg (by omega), if_neg (by omega), if_neg (by omega), if_neg (by omega)]
    refine ⟨S, h.add rfl h0 (by rw [hr]; exact .new hk hd hn) (fun d' hd' => ?_) (fun hh => (by cases hh))⟩
    injection hd' with hd'
    subst hd'
    exact ⟨d, hd, rfl, Iff.rfl⟩
  | get d i h0 hk hd hi hn hb hr hs =>
    subst hs
    have e1 : (ans e).code = 0 := by rw [hr]; exact told_code _
    rw [if_neg (by omega), if_neg (by omega), if_neg (by omega), if_neg (by omega), if_neg (by omega)]
    refine ⟨S, h.add rfl h0 (by rw [hr]; exact .get hk hd hi hn) (fun d' hd' => ?_) (fun hh => (by cases hh))⟩
    injection hd' with hd'
    subst hd'
    exact ⟨d, hd, rfl, Iff.rfl⟩
  | put d i h0 hk hd hi hn hb hr hs =>
    subst hs
    have e1 : (ans e).code = 0 := by rw [hr]; rfl
    rw [if_neg (by omega), if_neg (by omega), if_neg (by omega), if_neg (by omega), if_neg (by omega)]
    refine ⟨S, h.add rfl h0 (by rw [hr]; exact .put hk hd hi hn) (fun d' hd' => ?_) (fun hh => (by cases hh))⟩
    injection hd' with hd'
    subst hd'
    exact ⟨d, hd, rfl, Iff.rfl⟩
  | set h0 hk hn hr hs =>
    subst hs
    have e1 : (ans e).code = 0 := by rw [hr]; rfl
    rw [if_neg (by omega), if_neg (by omega), if_neg (by omega), if_neg (by omega), if_neg (by omega)]
    exact ⟨S, h.add rfl h0 (by rw [hr]; exact .set hk hn) (fun d' hd' => ⟨d', hd', rfl, Iff.rfl⟩) (fun hh => hh)⟩
  | copy h0 hk hn hr hs =>
    subst hs
    have e1 : (ans e).code = 0 := by rw [hr]; rfl
    have hr4 : In4 (act e).n ∧ In4 (act e).t := by
      unfold firstErr at h0
      split at h0
      · cases h0
      · split at h0
        · cases h0
        · rename_i hh
          constructor
          · exact Classical.byContradiction fun h' => hh (.inr (.inr (.inr ⟨hk, h'⟩)))
          · exact Classical.byContradiction fun h' => hh (.inl ⟨by omega, h'⟩)
    obtain ⟨⟨n1, n2⟩, t1, t2⟩ := hr4
    by_cases hne : (act e).n = (act e).t
    · rw [if_neg (by omega), if_neg (by omega), if_neg (by omega), if_neg (by omega), if_neg (by omega)]
      rw [hne]
      exact ⟨S, h.add rfl h0 (by rw [hr]; exact .copy hk (by rw [hne])) (fun d' hd' => ⟨d', hd', rfl, Iff.rfl⟩) (fun hh => hh)⟩
    · rw [if_neg (by omega), if_neg (by omega), if_neg (by omega), if_pos ⟨hk, hne⟩]
      have hnt : (act e).n.toNat ≠ (act e).t.toNat := by omega
      exact h.copies rfl rfl hnt h0 hk hr (Classical.byContradiction fun hh => hn ⟨hnt, .inl hh⟩) (Classical.byContradiction fun hh => hn ⟨hnt, .inr hh⟩)
  | same h0 hk hr hs =>
    subst hs
    have e1 : (ans e).code = 0 := by rw [hr]; rfl
    rw [if_neg (by omega), if_neg (by omega), if_neg (by omega), if_neg (by omega), if_neg (by omega)]
    have := h.add (e := e) rfl h0 (by rw [hr]; exact .same hk) (fun d' hd' => ⟨d', hd', rfl, Iff.rfl⟩) (fun hh => hh)
    rw [setTh_id] at this
    exact ⟨S, this⟩

/-- All that is left is placed in the end. -/
theorem Ser.place {s S : AS} {σ : SerSt α} (h : Ser act ans s S σ) {t : Nat} (ht : (s.th t).tx = none) : ∃ S', Ser act ans s S' ⟨σ.placed ++ σ.parts t, upd σ.parts t [], σ.opn⟩ := by
  have r1 := h.shut t ht
  rw [← h.store] at r1
  have a1 := r1.runA (fun v _ => h.shutS v)
  rw [prs_fst, prs_snd] at a1
  refine ⟨setTh S t (s.th t), h.store, fun v => ?_, fun v hv => ?_, fun v d hv => ?_, ?_⟩
  · by_cases e : v = t
    · subst e; rw [setTh_th]; exact ht
    · rw [setTh_other _ _ e]; exact h.shutS v
  · by_cases e : v = t
    · subst e
      rw [setTh_th]
      simp only [upd_same]
      exact rfl
    · rw [setTh_other _ _ e]
      simp only []
      rw [upd_other _ _ e]
      exact h.shut v hv
  · by_cases e : v = t
    · subst e; rw [ht] at hv; cases hv
    · rw [setTh_other _ _ e]
      simp only []
      rw [upd_other _ _ e]
      exact h.opened v d hv
  · show RunA AS.init ((σ.placed ++ σ.parts t).map act) ((σ.placed ++ σ.parts t).map ans) _
    simp only [List.map_append]
    exact h.run.append a1

theorem Ser.all {es : List α} : ∀ {s s' S : AS} {σ : SerSt α}, Ser act ans s S σ → Wf s → (∀ e ∈ es, ¬ Clean (act e)) → RunA s (es.map act) (es.map ans) s' → ∃ S', Ser act ans s' S' (es.foldl (serStep act ans) σ) := by
  induction es with
  | nil =>
    intro s s' S σ h w _ hr
    obtain ⟨_, rfl⟩ := hr
    exact ⟨S, h⟩
  | cons e es ih =>
    intro s s' S σ h w hc hr
    obtain ⟨r, rs, s1, he, h1, h2⟩ := hr
    injection he with he1 he2
    subst he1 he2
    obtain ⟨S1, h3⟩ := h.step w (hc e (by simp)) h1
    exact ih h3 (w.step h1) (fun e' he' => hc e' (by simp [he'])) h2
end
end Go.Proofs.Ytpdcaoagpjcgbab.Stm

