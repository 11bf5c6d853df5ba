/-
  The machine in memory while its references are visited: what each part of a visit does to it. It proves no statement by itself.
-/
import Derived.Test.YtpdcaoagpjcgbabVisA
import Derived.Test.YtpdcaoagpjcgbabStmOwn
import Derived.Laws.AppendOwn
import Derived.Laws.OwnMore
import Derived.Test.YtpdcaoagpjcgbabGcA
import Derived.Test.YtpdcaoagpjcgbabStmC
set_option linter.unusedVariables false
set_option linter.unusedSimpArgs false
namespace Go.Proofs.Ytpdcaoagpjcgbab
open Go.RowKit Stm

/-- Only blocks that have a role have turned; a block that had none has none. -/
structure MovedW (ρ : Roles) (w : World) (ρ' : Roles) (w' : World) : Prop where
  os : w'.os = w.os
  tape : w'.tape = w.tape
  output : w'.output = w.output
  size : w.heap.size ≤ w'.heap.size
  block : ∀ i, i < w.heap.size → ρ i = none → w'.heap[i]? = w.heap[i]?
  none : ∀ i, i < w.heap.size → ρ i = none → ρ' i = none
theorem MovedW.refl (ρ : Roles) (w : World) : MovedW ρ w ρ w := ⟨rfl, rfl, rfl, Nat.le_refl _, fun _ _ _ => rfl, fun _ _ h => h⟩
theorem MovedW.trans {ρ1 ρ2 ρ3 : Roles} {a b c : World} (h : MovedW ρ1 a ρ2 b) (k : MovedW ρ2 b ρ3 c) : MovedW ρ1 a ρ3 c :=
  ⟨k.os.trans h.os, k.tape.trans h.tape, k.output.trans h.output, Nat.le_trans h.size k.size, fun i hi hr => (k.block i (Nat.lt_of_lt_of_le hi h.size) (h.none i hi hr)).trans (h.block i hi hr), fun i hi hr => k.none i (Nat.lt_of_lt_of_le hi h.size) (h.none i hi hr)⟩
theorem Moved.w {ρ ρ' : Roles} {w w' : World} (h : Moved ρ w ρ' w') : MovedW ρ w ρ' w' := ⟨h.os, h.tape, h.output, h.size, h.block, fun i hi hr => (h.roles i hi).trans hr⟩
theorem MovedC.w {ρ ρ' : Roles} {w w' : World} (h : MovedC ρ w ρ' w') : MovedW ρ w ρ' w' := h.moved.w
theorem MovedW.roles {ρ ρ1 ρ2 : Roles} {w w' : World} (h : MovedW ρ w ρ1 w') (hr : ∀ i, i < w.heap.size → ρ1 i = Option.none → ρ2 i = Option.none) : MovedW ρ w ρ2 w' := { h with none := fun i hi hn => hr i hi (h.none i hi hn) }
theorem MovedW.below {ρ : Roles} {w w' : World} (h : Below w.heap.size w w') : MovedW ρ w ρ w' := (Moved.of_below h).w

theorem MovedW.grown {ρ ρ' : Roles} {w wr w1 : World} {r : Nat} (h : MovedW ρ w ρ' wr) (hg : wr.grownBy w1 (some r)) (hr : w.heap.size ≤ r) : MovedW ρ w ρ' w1 :=
  ⟨hg.os.trans h.os, hg.tape.trans h.tape, hg.output.trans h.output, Nat.le_trans h.size hg.size, fun i hi hn => (hg.block i (Nat.lt_of_lt_of_le hi h.size) (fun e => by have := Option.some.inj e; omega)).trans (h.block i hi hn), h.none⟩

/-- A thread's saved registers. -/
theorem Mach.setSaved {w : World} {B mb k : Nat} {ρ : Roles} {c : Mc} {m : Mem} (h : Mach w B mb k ρ c m) {t : Nat} (ht : t < 4) (f : Nat → Val) :
    Mach (puts w mb (34 + t * 11 + 1) (regCells f)) B mb k ρ ⟨c.xs, c.top, c.regs, upd c.tx t ⟨(c.tx t).isOpen, f, (c.tx t).recd, (c.tx t).own⟩, c.coll⟩ m := by
  have hl : (regCells f).length = 8 := rfl
  refine h.put _ _ (h.blk.put _ _ (by omega) ?_ ?_ ?_ ?_ ?_ ?_ ?_ ?_ ?_ ?_ ?_ ?_ ?_) h.words h.rwords h.ret h.rret (fun t' ht' => ?_)
  · exact .inl ⟨by omega, rfl⟩
  · exact .inl ⟨by omega, rfl⟩
  · intro t' r' ht' hr'; exact .inl ⟨by omega, rfl⟩
  · intro t' r' ht' hr'; exact .inl ⟨by omega, rfl⟩
  · intro t' ht'
    refine .inl ⟨by omega, ?_⟩
    by_cases e : t' = t
    · subst e; simp only [upd_same]
    · simp only []; rw [upd_other _ _ e]
  · intro t' r' ht' hr'
    by_cases e1 : t' = t
    · subst e1
      exact .inr ⟨r' * 2, by omega, by simp only [upd_same]; exact regCells_k f hr'⟩
    · exact .inl ⟨by omega, by simp only []; rw [upd_other _ _ e1]⟩
  · intro t' r' ht' hr'
    by_cases e1 : t' = t
    · subst e1
      exact .inr ⟨r' * 2 + 1, by omega, by simp only [upd_same]; exact regCells_n f hr'⟩
    · exact .inl ⟨by omega, by simp only []; rw [upd_other _ _ e1]⟩
  · intro t' ht'; exact .inl ⟨by omega, rfl⟩
  · intro t' ht'; exact .inl ⟨by omega, rfl⟩
  · exact .inl ⟨by omega, rfl⟩
  · exact .inl ⟨by omega, rfl⟩
  · exact .inl ⟨by omega, rfl⟩
  · exact .inl ⟨by omega, rfl⟩
  · by_cases e : t' = t
    · subst e
      simp only [upd_same]
      have := h.txs t' ht'
      exact ⟨this.recd, this.own, this.fields, this.opened⟩
    · simp only []; rw [upd_other _ _ e]; exact h.txs t' ht'

/-- A new map of what a thread has recorded. -/
theorem Mach.newRec {w : World} {B mb k : Nat} {ρ : Roles} {c : Mc} {m : Mem} (h : Mach w B mb k ρ c m) {t : Nat} (ht : t < 4) {b n : Nat} (hb : ρ b = none) (hB : B ≤ b) (hlt : b < w.heap.size) (hn : n ≤ k) (f : Int → Option Int) (hm : MapR w b n (recV f)) :
    Mach (puts w mb (34 + t * 11 + 9) [.map (some b)]) B mb k (fun i => if i = b then some (3, t, 0) else ρ i) ⟨c.xs, c.top, c.regs, upd c.tx t ⟨(c.tx t).isOpen, (c.tx t).saved, f, (c.tx t).own⟩, c.coll⟩ ⟨m.wa, m.wcap, upd m.rm t (some b), m.om, m.fa, m.fc, m.ra, m.rcap⟩ := by
  have e1 : ∀ i, ρ i ≠ none → (fun i => if i = b then some (3, t, 0) else ρ i : Roles) i = ρ i := fun i hi => by
    show (if i = b then some (3, t, 0) else ρ i) = ρ i
    rw [if_neg (fun e => hi (by rw [e]; exact hb))]
  have h2 := h.roles e1 (fun i hi => by
    by_cases e : i = b
    · subst e; exact ⟨hB, hlt⟩
    · refine h.low i (fun hn => hi ?_)
      show (if i = b then some (3, t, 0) else ρ i) = none
      rw [if_neg e]; exact hn)
  have hl : ([Value.map (some b)] : List Value).length = 1 := rfl
  refine h2.put _ _ (h2.blk.put _ _ (by omega) ?_ ?_ ?_ ?_ ?_ ?_ ?_ ?_ ?_ ?_ ?_ ?_ ?_) h2.words h2.rwords h2.ret h2.rret (fun t' ht' => ?_)
  · exact .inl ⟨by omega, rfl⟩
  · exact .inl ⟨by omega, rfl⟩
  · intro t' r' ht' hr'; exact .inl ⟨by omega, rfl⟩
  · intro t' r' ht' hr'; exact .inl ⟨by omega, rfl⟩
  · intro t' ht'
    refine .inl ⟨by omega, ?_⟩
    by_cases e : t' = t
    · subst e; simp only [upd_same]
    · simp only []; rw [upd_other _ _ e]
  · intro t' r' ht' hr'
    refine .inl ⟨by omega, ?_⟩
    by_cases e : t' = t
    · subst e; simp only [upd_same]
    · simp only []; rw [upd_other _ _ e]
  · intro t' r' ht' hr'
    refine .inl ⟨by omega, ?_⟩
    by_cases e : t' = t
    · subst e; simp only [upd_same]
    · simp only []; rw [upd_other _ _ e]
  · intro t' ht'
    by_cases e : t' = t
    · subst e; exact .inr ⟨0, by omega, by simp only [upd_same]; rfl⟩
    · exact .inl ⟨by omega, by simp only []; rw [upd_other _ _ e]⟩
  · intro t' ht'; exact .inl ⟨by omega, rfl⟩
  · exact .inl ⟨by omega, rfl⟩
  · exact .inl ⟨by omega, rfl⟩
  · exact .inl ⟨by omega, rfl⟩
  · exact .inl ⟨by omega, rfl⟩
  · by_cases e : t' = t
    · subst e
      simp only [upd_same]
      have := h2.txs t' ht'
      exact ⟨.inr ⟨b, n, rfl, hn, by simp, hm⟩, this.own, this.fields, fun ho => ⟨by simp, (this.opened ho).2⟩⟩
    · simp only []; rw [upd_other _ _ e, upd_other _ _ e]; exact h2.txs t' ht'

/-- The roles of the fields that a thread keeps, when the keys have moved. -/
def reRole (ρ : Roles) (t b : Nat) (f : Int → Int) : Roles := fun i => if i = b then some (4, t, 0) else match ρ i with | some (5, u, p) => if u = t then some (5, t, f p) else some (5, u, p) | x => x
theorem reRole_other {ρ : Roles} {t b i : Nat} {f : Int → Int} {x : Role} (h : ρ i = some x) (hb : ρ b = none) (hx : ∀ p, x ≠ (5, t, p)) : reRole ρ t b f i = some x := by
  unfold reRole
  rw [if_neg (fun e => by rw [e, hb] at h; cases h), h]
  obtain ⟨a, u, p⟩ := x
  split
  · rename_i u' p' e
    injection e with e
    injection e with e1 e2
    injection e2 with e2 e3
    subst e1 e2 e3
    rw [if_neg (fun e => hx p (by rw [e]))]
  · rfl
theorem reRole_none {ρ : Roles} {t b i : Nat} {f : Int → Int} (h : ρ i = none) (hi : i ≠ b) : reRole ρ t b f i = none := by
  unfold reRole
  rw [if_neg hi, h]
theorem reRole_some {ρ : Roles} {t b i : Nat} {f : Int → Int} (h : reRole ρ t b f i ≠ none) : i = b ∨ ρ i ≠ none := by
  by_cases e : i = b
  · exact .inl e
  · exact .inr (fun hn => h (reRole_none hn e))
theorem reRole_five {ρ : Roles} {t b i : Nat} {p : Int} {f : Int → Int} (h : ρ i = some (5, t, p)) (hb : ρ b = none) : reRole ρ t b f i = some (5, t, f p) := by
  unfold reRole
  rw [if_neg (fun e => by rw [e, hb] at h; cases h), h]
  simp

/-- A new map of what a thread owns: the same originals, under keys that have moved. -/
theorem Mach.newOwn {w : World} {B mb k : Nat} {ρ : Roles} {c : Mc} {m : Mem} (h : Mach w B mb k ρ c m) {t : Nat} (ht : t < 4) {b n : Nat} (hb : ρ b = none) (hB : B ≤ b) (hlt : b < w.heap.size) (hn : n ≤ k) (f : Int → Int)
    (hinj : ∀ p q, (c.tx t).own p ≠ none → (c.tx t).own q ≠ none → f p = f q → p = q) (m' : Int → Option Value) (hm : MapR w b n m') (hm' : ∀ q v, m' q = some v ↔ ∃ p, ownV (c.tx t).own (m.fa t) (m.fc t) p = some v ∧ f p = q) :
    ∃ (own' : Int → Option Orig) (fa' : Int → Option Addr) (fc' : Int → Nat), (∀ q o, own' q = some o ↔ ∃ p, (c.tx t).own p = some o ∧ f p = q) ∧ m' = ownV own' fa' fc' ∧
      Mach (puts w mb (34 + t * 11 + 10) [.map (some b)]) B mb k (reRole ρ t b f) ⟨c.xs, c.top, c.regs, upd c.tx t ⟨(c.tx t).isOpen, (c.tx t).saved, (c.tx t).recd, own'⟩, c.coll⟩ ⟨m.wa, m.wcap, m.rm, upd m.om t (some b), upd m.fa t fa', upd m.fc t fc', m.ra, m.rcap⟩ := by
  classical
  let P : Int → Int → Prop := fun q p => (c.tx t).own p ≠ none ∧ f p = q
  let pre : Int → Option Int := fun q => if hh : ∃ p, P q p then some (Classical.choose hh) else none
  have hpre : ∀ q p, P q p → pre q = some p := fun q p hp => by
    have hh : ∃ p, P q p := ⟨p, hp⟩
    have hc := Classical.choose_spec hh
    show (if hh : ∃ p, P q p then some (Classical.choose hh) else none) = some p
    rw [dif_pos hh]
    exact congrArg some (hinj _ _ hc.1 hp.1 (hc.2.trans hp.2.symm))
  have hpre' : ∀ q p, pre q = some p → P q p := fun q p hp => by
    have hp' : (if hh : ∃ p, P q p then some (Classical.choose hh) else none) = some p := hp
    by_cases hh : ∃ p, P q p
    · rw [dif_pos hh] at hp'
      rw [← Option.some.inj hp']
      exact Classical.choose_spec hh
    · rw [dif_neg hh] at hp'; cases hp'
  let own' : Int → Option Orig := fun q => (pre q).bind (c.tx t).own
  let fa' : Int → Option Addr := fun q => (pre q).bind (m.fa t)
  let fc' : Int → Nat := fun q => ((pre q).map (m.fc t)).getD 0
  have ho : ∀ q o, own' q = some o ↔ ∃ p, (c.tx t).own p = some o ∧ f p = q := fun q o => by
    constructor
    · intro hq
      have hq' : (pre q).bind (c.tx t).own = some o := hq
      cases hp : pre q with
      | none => rw [hp] at hq'; cases hq'
      | some p => rw [hp] at hq'; exact ⟨p, hq', (hpre' q p hp).2⟩
    · rintro ⟨p, hp, hf⟩
      show (pre q).bind (c.tx t).own = some o
      rw [hpre q p ⟨by rw [hp]; simp, hf⟩]
      exact hp
  have hmap : m' = ownV own' fa' fc' := by
    funext q
    apply Option.ext
    intro v
    rw [hm' q v]
    constructor
    · rintro ⟨p, hp, hf⟩
      unfold ownV at hp ⊢
      cases hpo : (c.tx t).own p with
      | none => rw [hpo] at hp; cases hp
      | some o =>
        rw [hpo] at hp
        have e := hpre q p ⟨by rw [hpo]; simp, hf⟩
        show ((pre q).bind (c.tx t).own).map (fun o => ownVal o ((pre q).bind (m.fa t)) (((pre q).map (m.fc t)).getD 0)) = some v
        rw [e]
        simp only [Option.bind_some, Option.map_some, Option.getD_some]
        rw [hpo]
        exact hp
    · intro hv
      have hv' : ((pre q).bind (c.tx t).own).map (fun o => ownVal o ((pre q).bind (m.fa t)) (((pre q).map (m.fc t)).getD 0)) = some v := hv
      cases hp : pre q with
      | none => rw [hp] at hv'; cases hv'
      | some p =>
        rw [hp] at hv'
        simp only [Option.bind_some, Option.map_some, Option.getD_some] at hv'
        exact ⟨p, hv', (hpre' q p hp).2⟩
  refine ⟨own', fa', fc', ho, hmap, ?_⟩
  have hr1 : ∀ i x, ρ i = some x → (∀ p, x ≠ (5, t, p)) → reRole ρ t b f i = some x := fun i x hx hh => reRole_other hx hb hh
  have hblk : MBlk (puts w mb (34 + t * 11 + 10) [.map (some b)]) mb ⟨c.xs, c.top, c.regs, upd c.tx t ⟨(c.tx t).isOpen, (c.tx t).saved, (c.tx t).recd, own'⟩, c.coll⟩ ⟨m.wa, m.wcap, m.rm, upd m.om t (some b), upd m.fa t fa', upd m.fc t fc', m.ra, m.rcap⟩ := by
    have hl : ([Value.map (some b)] : List Value).length = 1 := rfl
    refine h.blk.put _ _ (by omega) ?_ ?_ ?_ ?_ ?_ ?_ ?_ ?_ ?_ ?_ ?_ ?_ ?_
    · exact .inl ⟨by omega, rfl⟩
    · exact .inl ⟨by omega, rfl⟩
    · intro t' r' ht' hr'; exact .inl ⟨by omega, rfl⟩
    · intro t' r' ht' hr'; exact .inl ⟨by omega, rfl⟩
    · intro t' ht'
      refine .inl ⟨by omega, ?_⟩
      by_cases e : t' = t
      · subst e; simp only [upd_same]
      · simp only []; rw [upd_other _ _ e]
    · intro t' r' ht' hr'
      refine .inl ⟨by omega, ?_⟩
      by_cases e : t' = t
      · subst e; simp only [upd_same]
      · simp only []; rw [upd_other _ _ e]
    · intro t' r' ht' hr'
      refine .inl ⟨by omega, ?_⟩
      by_cases e : t' = t
      · subst e; simp only [upd_same]
      · simp only []; rw [upd_other _ _ e]
    · intro t' ht'; exact .inl ⟨by omega, rfl⟩
    · intro t' ht'
      by_cases e : t' = t
      · subst e; exact .inr ⟨0, by omega, by simp only [upd_same]; rfl⟩
      · exact .inl ⟨by omega, by simp only []; rw [upd_other _ _ e]⟩
    · exact .inl ⟨by omega, rfl⟩
    · exact .inl ⟨by omega, rfl⟩
    · exact .inl ⟨by omega, rfl⟩
    · exact .inl ⟨by omega, rfl⟩
  have hne : ∀ i x, ρ i = some x → x ≠ (0, 0, 0) → (puts w mb (34 + t * 11 + 10) [.map (some b)]).heap[i]? = w.heap[i]? := fun i x hx hn => puts_other _ w mb _ i (fun e => by
    subst e
    rw [h.rmb] at hx
    exact hn (Option.some.inj hx).symm)
  have hbmb : b ≠ mb := fun e => by rw [e, h.rmb] at hb; cases hb
  refine ⟨hblk, ownsRow_kept h.words (fun g hg => hne g _ (h.rwords g hg) (by simp)), ownsRow_kept h.ret (fun g hg => hne g _ (h.rret g hg) (by simp)), fun t' ht' => ?_, hr1 mb _ h.rmb (by simp), fun g hg => hr1 g _ (h.rwords g hg) (by simp), fun g hg => hr1 g _ (h.rret g hg) (by simp), fun i hi => ?_⟩
  · have hx := h.txs t' ht'
    by_cases e : t' = t
    · subst e
      simp only [upd_same]
      refine ⟨hx.recd.imp id ?_, .inr ⟨b, n, rfl, hn, by simp [reRole], ?_⟩, fun q o hq => ?_, fun hop => ⟨(hx.opened hop).1, by simp⟩⟩
      · rintro ⟨b2, n2, h1, h2, h3, h4⟩
        exact ⟨b2, n2, h1, h2, hr1 b2 _ h3 (by simp), h4.kept (hne b2 _ h3 (by simp))⟩
      · rw [← hmap]
        exact hm.kept (puts_other _ w mb _ b hbmb)
      · obtain ⟨p, hp, hf⟩ := (ho q o).1 hq
        have e := hpre q p ⟨by rw [hp]; simp, hf⟩
        obtain ⟨h5, h6⟩ := hx.fields p o hp
        have e2 : fa' q = m.fa t' p := by show (pre q).bind (m.fa t') = _; rw [e]; rfl
        have e3 : fc' q = m.fc t' p := by show ((pre q).map (m.fc t')).getD 0 = _; rw [e]; rfl
        rw [e2, e3]
        refine ⟨ownsRow_kept h5 (fun g hg => hne g _ (h6 g hg) (by simp)), fun g hg => ?_⟩
        rw [reRole_five (h6 g hg) hb, hf]
    · simp only []
      rw [upd_other _ _ e, upd_other _ _ e, upd_other _ _ e, upd_other _ _ e]
      refine ⟨hx.recd.imp id ?_, hx.own.imp id ?_, fun p o hp => ?_, hx.opened⟩
      · rintro ⟨b2, n2, h1, h2, h3, h4⟩
        exact ⟨b2, n2, h1, h2, hr1 b2 _ h3 (by simp), h4.kept (hne b2 _ h3 (by simp))⟩
      · rintro ⟨b2, n2, h1, h2, h3, h4⟩
        exact ⟨b2, n2, h1, h2, hr1 b2 _ h3 (by simp), h4.kept (hne b2 _ h3 (by simp))⟩
      · obtain ⟨h5, h6⟩ := hx.fields p o hp
        exact ⟨ownsRow_kept h5 (fun g hg => hne g _ (h6 g hg) (by simp)), fun g hg => hr1 g _ (h6 g hg) (fun p' e' => by injection e' with _ e'; injection e' with e' _; exact e e')⟩
  · rw [puts_size]
    rcases reRole_some hi with rfl | h'
    · exact ⟨hB, hlt⟩
    · exact h.low i h'

theorem OwnV.puts : ∀ (L : List Value) (j : Nat) (w : World) (base n c g : Nat) (xs : List Value), w.ownsRow base 34 2 (.slice (some ⟨g, 0, none⟩) n c) n xs → (∀ i, i < L.length → j + i < xs.length) →
    ∃ ys, (Go.Proofs.Ytpdcaoagpjcgbab.puts w g j L).ownsRow base 34 2 (.slice (some ⟨g, 0, none⟩) n c) n ys ∧ ys.length = xs.length ∧ (∀ i, i < j → ys[i]? = xs[i]?) ∧ (∀ i, i < L.length → ys[j + i]? = L[i]?) ∧ (∀ i, j + L.length ≤ i → ys[i]? = xs[i]?)
  | [], j, w, base, n, c, g, xs, h, _ => ⟨xs, h, rfl, fun _ _ => rfl, fun i hi => absurd hi (Nat.not_lt_zero _), fun _ _ => rfl⟩
  | v :: L, j, w, base, n, c, g, xs, h, hj => by
    have h1 := (World.ownsRow.stored h j v).1
    obtain ⟨ys, h2, h3, h4, h5, h6⟩ := OwnV.puts L (j + 1) _ base n c g _ h1 (fun i hi => by rw [List.length_set]; have := hj (i + 1) (by simpa using hi); omega)
    refine ⟨ys, h2, by rw [h3, List.length_set], fun i hi => ?_, fun i hi => ?_, fun i hi => ?_⟩
    · rw [h4 i (by omega), List.getElem?_set_ne (by omega)]
    · cases i with
      | zero =>
        rw [Nat.add_zero, h4 j (by omega), List.getElem?_set_self (by have := hj 0 (by simp); omega)]
        rfl
      | succ i =>
        rw [show j + (i + 1) = j + 1 + i by omega, h5 i (by simpa using hi)]
        simp
    · simp only [List.length_cons] at hi
      rw [h6 i (by omega), List.getElem?_set_ne (by omega)]
theorem OwnV.all {w : World} {base n c g : Nat} {vs us : List Val} (h : OwnV w base (.slice (some ⟨g, 0, none⟩) n c) vs) (hn : vs.length = n) (hl : us.length = vs.length) : OwnV (Go.Proofs.Ytpdcaoagpjcgbab.puts w g 0 (vcells us)) base (.slice (some ⟨g, 0, none⟩) n c) us := by
  unfold OwnV at h ⊢
  rw [hn] at h
  rw [hl, hn]
  obtain ⟨ys, h1, h2, _, h4, _⟩ := OwnV.puts (vcells us) 0 w base n c g _ h (fun i hi => by rw [vcells_length] at hi ⊢; omega)
  have : ys = vcells us := by
    apply List.ext_getElem?
    intro i
    rcases Nat.lt_or_ge i (vcells us).length with h' | h'
    · have := h4 i h'
      rwa [Nat.zero_add] at this
    · rw [List.getElem?_eq_none h', List.getElem?_eq_none (by rw [h2, vcells_length]; rw [vcells_length] at h'; omega)]
  rw [this] at h1
  exact h1

/-- The fields of one object that a thread owns. -/
theorem Mach.setFields {w : World} {B mb k : Nat} {ρ : Roles} {c : Mc} {m : Mem} (h : Mach w B mb k ρ c m) {t : Nat} (ht : t < 4) {q : Int} {o : Orig} (ho : (c.tx t).own q = some o) (us : List Val) (hl : us.length = o.fields.length) (g : Nat) (hg : o.fields.length = 0 ∨ m.fa t q = some ⟨g, 0, none⟩) :
    Mach (puts w g 0 (vcells us)) B mb k ρ ⟨c.xs, c.top, c.regs, upd c.tx t ⟨(c.tx t).isOpen, (c.tx t).saved, (c.tx t).recd, setAt (c.tx t).own q (some ⟨o.ver, us⟩)⟩, c.coll⟩ m := by
  rcases Nat.eq_zero_or_pos o.fields.length with h0 | hpos
  · have hu : us = [] := List.length_eq_zero_iff.1 (by omega)
    have hof : o.fields = [] := List.length_eq_zero_iff.1 h0
    subst hu
    have hsame : setAt (c.tx t).own q (some ⟨o.ver, []⟩) = (c.tx t).own := by
      funext x
      by_cases e : x = q
      · subst e; rw [setAt_same, ho, ← hof]
      · rw [setAt_other _ _ e]
    have htx : upd c.tx t ⟨(c.tx t).isOpen, (c.tx t).saved, (c.tx t).recd, setAt (c.tx t).own q (some ⟨o.ver, []⟩)⟩ = c.tx := by
      rw [hsame]; exact upd_id _ _
    rw [htx]
    exact h
  · have hga := hg.resolve_left (by omega)
    have hx := h.txs t ht
    obtain ⟨h5, h6⟩ := hx.fields q o ho
    have hrg : ρ g = some (5, t, q) := h6 g (by rw [hga]; rfl)
    have hne : ∀ i x, ρ i = some x → x ≠ (5, t, q) → (puts w g 0 (vcells us)).heap[i]? = w.heap[i]? := fun i x hx hn => puts_other _ w g 0 i (fun e => by
      subst e
      rw [hrg] at hx
      exact hn (Option.some.inj hx).symm)
    have hs : w.heap.size ≤ (puts w g 0 (vcells us)).heap.size := Nat.le_of_eq (puts_size _ _ _ _).symm
    refine ⟨(h.blk.kept (hne mb _ h.rmb (by simp)) hs).retx t _ rfl rfl rfl rfl rfl rfl rfl rfl, ownsRow_kept h.words (fun g' hg' => hne g' _ (h.rwords g' hg') (by simp)), ownsRow_kept h.ret (fun g' hg' => hne g' _ (h.rret g' hg') (by simp)), fun t' ht' => ?_, h.rmb, h.rwords, h.rret, fun i hi => ⟨(h.low i hi).1, Nat.lt_of_lt_of_le (h.low i hi).2 hs⟩⟩
    by_cases e : t' = t
    · subst e
      simp only [upd_same]
      refine ⟨hx.recd.imp id ?_, hx.own.imp ?_ ?_, fun p o' hp => ?_, hx.opened⟩
      · rintro ⟨b2, n2, h1, h2, h3, h4⟩
        exact ⟨b2, n2, h1, h2, h3, h4.kept (hne b2 _ h3 (by simp))⟩
      · rintro ⟨h1, h2⟩
        rw [h2 q] at ho
        cases ho
      · rintro ⟨b2, n2, h1, h2, h3, h4⟩
        refine ⟨b2, n2, h1, h2, h3, ?_⟩
        have : ownV (setAt (c.tx t').own q (some ⟨o.ver, us⟩)) (m.fa t') (m.fc t') = ownV (c.tx t').own (m.fa t') (m.fc t') := by
          funext x
          unfold ownV
          by_cases e : x = q
          · subst e; rw [setAt_same, ho]; simp [ownVal, hl]
          · rw [setAt_other _ _ e]
        rw [this]
        exact h4.kept (hne b2 _ h3 (by simp))
      · dsimp only at hp
        by_cases e : p = q
        · subst e
          rw [setAt_same] at hp
          injection hp with hp
          subst hp
          dsimp only
          rw [hl]
          refine ⟨?_, h6⟩
          rw [hga] at h5 ⊢
          exact h5.all rfl hl
        · rw [setAt_other _ _ e] at hp
          obtain ⟨h7, h8⟩ := hx.fields p o' hp
          exact ⟨ownsRow_kept h7 (fun g' hg' => hne g' _ (h8 g' hg') (by simp [e])), h8⟩
    · simp only []
      rw [upd_other _ _ e]
      exact (h.txs t' ht').kept (fun i hi => by rcases hi with h | h | ⟨p, h⟩ <;> exact hne i _ h (by simp; try omega))
end Go.Proofs.Ytpdcaoagpjcgbab

/-
  The walk of visit of package stm, with any closure. It proves no statement by itself.
-/
namespace Go.Proofs.Ytpdcaoagpjcgbab
open Go.RowKit Stm Go.Maps

/-- A transaction whose references were visited. -/
structure FTx (f : Int → Int) (x x' : Tx) : Prop where
  isOpen : x'.isOpen = x.isOpen
  saved : ∀ r, x'.saved r = mvF f (x.saved r)
  recd : ∀ q v, x'.recd q = some v ↔ ∃ p, x.recd p = some v ∧ f p = q
  own : ∀ q o', x'.own q = some o' ↔ ∃ p o, x.own p = some o ∧ f p = q ∧ (⟨o.ver, o.fields.map (mvF f)⟩ : Orig) = o'

structure VisOk (c : Mc) (f : Int → Int) : Prop where
  recInj : ∀ t p q, (c.tx t).recd p ≠ none → (c.tx t).recd q ≠ none → f p = f q → p = q
  ownInj : ∀ t p q, (c.tx t).own p ≠ none → (c.tx t).own q ≠ none → f p = f q → p = q
  regs : ∀ t r, Fits (c.regs t r).n
  saved : ∀ t r, Fits ((c.tx t).saved r).n
  fields : ∀ t p o, (c.tx t).own p = some o → o.fields.length ≤ 6 ∧ ∀ v ∈ o.fields, Fits v.n

/-- What a thread holds. -/
def HeldBy (c : Mc) (t : Nat) (q : Int) : Prop := (∃ r, r < 4 ∧ c.regs t r = ⟨1, q⟩) ∨ (∃ r, r < 4 ∧ (c.tx t).saved r = ⟨1, q⟩) ∨ (c.tx t).recd q ≠ none ∨ (c.tx t).own q ≠ none ∨ ∃ p o, (c.tx t).own p = some o ∧ (⟨1, q⟩ : Val) ∈ o.fields

def list4 (g : Nat → Val) : List Val := [g 0, g 1, g 2, g 3]
theorem list4_getD (g : Nat → Val) {i : Nat} (h : i < 4) : (list4 g).getD i .zero = g i := by
  rcases four_cases h with rfl | rfl | rfl | rfl <;> rfl
theorem list4_cells (g : Nat → Val) : vcells (list4 g) = regCells g := rfl
theorem list4_map (g : Nat → Val) (f : Int → Int) : (list4 g).map (mvF f) = list4 (fun r => mvF f (g r)) := rfl
theorem mem_list4 {g : Nat → Val} {v : Val} : v ∈ list4 g ↔ ∃ r, r < 4 ∧ g r = v := by
  constructor
  · intro h
    simp [list4] at h
    rcases h with rfl | rfl | rfl | rfl
    · exact ⟨0, by omega, rfl⟩
    · exact ⟨1, by omega, rfl⟩
    · exact ⟨2, by omega, rfl⟩
    · exact ⟨3, by omega, rfl⟩
  · rintro ⟨r, hr, rfl⟩
    rcases four_cases hr with rfl | rfl | rfl | rfl <;> simp [list4]

theorem Mach.rowRegs {w : World} {B mb k : Nat} {ρ : Roles} {c : Mc} {m : Mem} (h : Mach w B mb k ρ c m) {t : Nat} (ht : t < 4) : RowV w mb (2 + t * 8) (list4 (c.regs t)) :=
  ⟨h.blk.lt, fun i hi => by rw [list4_getD _ hi]; exact ⟨h.blk.regk t i ht hi, h.blk.regn t i ht hi⟩, h.blk.warm⟩
theorem Mach.rowSaved {w : World} {B mb k : Nat} {ρ : Roles} {c : Mc} {m : Mem} (h : Mach w B mb k ρ c m) {t : Nat} (ht : t < 4) : RowV w mb (34 + t * 11 + 1) (list4 (c.tx t).saved) :=
  ⟨h.blk.lt, fun i hi => by rw [list4_getD _ hi]; exact ⟨h.blk.savk t i ht hi, h.blk.savn t i ht hi⟩, h.blk.warm⟩

/-- The numbers of a map of numbers. -/
def unRec (m : Int → Option Value) : Int → Option Int := fun q => (m q).bind fun v => match v with | .int .i64 z => some z | _ => none
theorem unRec_eq {g : Int → Option Int} {f : Int → Int} {m' : Int → Option Value} (h : ∀ q v, m' q = some v ↔ ∃ p, recV g p = some v ∧ f p = q) : recV (unRec m') = m' ∧ ∀ q v, unRec m' q = some v ↔ ∃ p, g p = some v ∧ f p = q := by
  have hform : ∀ q v, m' q = some v → ∃ z, v = .int .i64 z := fun q v hv => by
    obtain ⟨p, hp, _⟩ := (h q v).1 hv
    unfold recV at hp
    cases hg : g p with
    | none => rw [hg] at hp; cases hp
    | some z => rw [hg] at hp; injection hp with hp; exact ⟨z, hp.symm⟩
  have e1 : ∀ q z, unRec m' q = some z ↔ m' q = some (.int .i64 z) := fun q z => by
    unfold unRec
    cases hm : m' q with
    | none => simp
    | some v =>
      obtain ⟨y, rfl⟩ := hform q v hm
      simp
  refine ⟨?_, fun q v => ?_⟩
  · funext q
    unfold recV
    cases hm : m' q with
    | none =>
      have : unRec m' q = none := by unfold unRec; rw [hm]; rfl
      rw [this]; rfl
    | some v =>
      obtain ⟨y, rfl⟩ := hform q v hm
      rw [(e1 q y).2 hm]; rfl
  · rw [e1, h]
    constructor
    · rintro ⟨p, hp, hf⟩
      refine ⟨p, ?_, hf⟩
      unfold recV at hp
      cases hg : g p with
      | none => rw [hg] at hp; cases hp
      | some z => rw [hg] at hp; simp at hp; rw [hp]
    · rintro ⟨p, hp, hf⟩
      exact ⟨p, by unfold recV; rw [hp]; rfl, hf⟩
theorem recV_inv {g : Int → Option Int} (x : Int) (v : Value) (h : recV g x = some v) : ∃ z, v = Value.int .i64 z := by
  unfold recV at h
  cases hg : g x with
  | none => rw [hg] at h; cases h
  | some z => rw [hg] at h; injection h with h; exact ⟨z, h.symm⟩
theorem recV_some {g : Int → Option Int} {x : Int} : (recV g x).isSome = true ↔ g x ≠ none := by
  unfold recV
  cases g x <;> simp
theorem ownV_isSome {g : Int → Option Orig} {fa : Int → Option Addr} {fc : Int → Nat} {x : Int} : (ownV g fa fc x).isSome = true ↔ g x ≠ none := by
  unfold ownV
  cases g x <;> simp

theorem visitRec {F : FuncId} {cap : Value} {I : World → Roles → List Int → Prop} {f : Int → Int} (C : Clo F cap I f) {w : World} {B mb k : Nat} {ρ : Roles} {c : Mc} {m : Mem} (h : Mach w B mb k ρ c m) {t : Nat} (ht : t < 4) (hk : k ≤ 1000) (s : List Int) (hI : I w ρ s) (hs : s.length ≤ 90000)
    (hinj : ∀ p q, (c.tx t).recd p ≠ none → (c.tx t).recd q ≠ none → f p = f q → p = q) :
    Calls Try.prog 129 #[.map (m.rm t), .func (.func F) #[] #[cap]] w (KPost I f w ρ s k (recV (c.tx t).recd)) := by
  have hl : ∀ i, ρ i ≠ none → i < w.heap.size := fun i hi => (h.low i hi).2
  rcases (h.txs t ht).recd with ⟨e, hn⟩ | ⟨b, n, e, hn, hr, hm⟩
  · rw [e]
    exact visitKeysI_nil C k w ρ s _ hI hl (fun p => by unfold recV; rw [hn]; rfl)
  · rw [e]
    exact visitKeysI_some C b k w ρ s _ hI hl (hm.mono hn) (by rw [hr]; simp) hk hs (fun p q h1 h2 => hinj p q (recV_some.1 h1) (recV_some.1 h2)) recV_inv
theorem visitOwn {F : FuncId} {cap : Value} {I : World → Roles → List Int → Prop} {f : Int → Int} (C : Clo F cap I f) {w : World} {B mb k : Nat} {ρ : Roles} {c : Mc} {m : Mem} (h : Mach w B mb k ρ c m) {t : Nat} (ht : t < 4) (hk : k ≤ 1000) (s : List Int) (hI : I w ρ s) (hs : s.length ≤ 90000)
    (hinj : ∀ p q, (c.tx t).own p ≠ none → (c.tx t).own q ≠ none → f p = f q → p = q) :
    Calls Try.prog 130 #[.map (m.om t), .func (.func F) #[] #[cap]] w (KPost I f w ρ s k (ownV (c.tx t).own (m.fa t) (m.fc t))) := by
  have hl : ∀ i, ρ i ≠ none → i < w.heap.size := fun i hi => (h.low i hi).2
  rcases (h.txs t ht).own with ⟨e, hn⟩ | ⟨b, n, e, hn, hr, hm⟩
  · rw [e]
    exact visitKeysO_nil C k w ρ s _ hI hl (fun p => by unfold ownV; rw [hn]; rfl)
  · rw [e]
    exact visitKeysO_some C b k w ρ s _ hI hl (hm.mono hn) (by rw [hr]; simp) hk hs (fun p q h1 h2 => hinj p q (ownV_isSome.1 h1) (ownV_isSome.1 h2)) ownV_inv

/-- Owned objects, some of whose fields have been visited. -/
def doneF (f : Int → Int) (own : Int → Option Orig) (left : Int → Bool) : Int → Option Orig := fun q => if left q = true then own q else (own q).map fun o => ⟨o.ver, o.fields.map (mvF f)⟩
theorem doneF_start (f : Int → Int) (own : Int → Option Orig) (left : Int → Bool) (h : ∀ q, left q = (own q).isSome) : doneF f own left = own := by
  funext q
  unfold doneF
  rw [h]
  cases own q <;> simp
theorem doneF_step {f : Int → Int} {own : Int → Option Orig} {left : Int → Bool} {x : Int} {o : Orig} (h : own x = some o) : doneF f own (fun z => left z && !decide (z = x)) = setAt (doneF f own left) x (some ⟨o.ver, o.fields.map (mvF f)⟩) := by
  funext z
  by_cases hz : z = x
  · subst hz; rw [setAt_same]; simp [doneF, h]
  · rw [setAt_other _ _ hz]; simp [doneF, hz]
theorem doneF_at {f : Int → Int} {own : Int → Option Orig} {left : Int → Bool} {x : Int} (h : left x = true) : doneF f own left x = own x := by simp [doneF, h]
theorem doneF_end {f : Int → Int} {own : Int → Option Orig} {left : Int → Bool} (h : ∀ q, left q = false) : ∀ q o', doneF f own left q = some o' ↔ ∃ o, own q = some o ∧ (⟨o.ver, o.fields.map (mvF f)⟩ : Orig) = o' := fun q o' => by
  simp [doneF, h]
theorem doneF_ownV {f : Int → Int} {own : Int → Option Orig} {left : Int → Bool} {fa : Int → Option Addr} {fc : Int → Nat} : ownV (doneF f own left) fa fc = ownV own fa fc := by
  funext q
  unfold ownV doneF
  split
  · rfl
  · cases own q <;> simp [ownVal]

/-- The objects in fields that were visited. -/
structure FieldsSt (own : Int → Option Orig) (left : Int → Bool) (ks : List Int) (k cnt : Nat) : Prop where
  mem : ∀ x, x ∈ ks ↔ ∃ q o, own q = some o ∧ left q = false ∧ (⟨1, x⟩ : Val) ∈ o.fields
  len : ks.length + 6 * cnt ≤ 6 * k
theorem FieldsSt.start {own : Int → Option Orig} {left : Int → Bool} (h : ∀ q, left q = (own q).isSome) {k cnt : Nat} (hc : cnt ≤ k) : FieldsSt own left [] k cnt :=
  ⟨fun x => ⟨fun h => (by cases h), fun ⟨q, o, h1, h2, _⟩ => by rw [h, h1] at h2; cases h2⟩, by simp; omega⟩
theorem FieldsSt.step {own : Int → Option Orig} {left : Int → Bool} {ks : List Int} {k cnt cnt' : Nat} (h : FieldsSt own left ks k cnt) {x : Int} {o : Orig} (hx : own x = some o) (hl : o.fields.length ≤ 6) (hc : cnt' < cnt) : FieldsSt own (fun z => left z && !decide (z = x)) (ks ++ objsOf o.fields) k cnt' := by
  refine ⟨fun y => ?_, ?_⟩
  · rw [List.mem_append, h.mem, mem_objsOf]
    constructor
    · rintro (⟨q, o', h1, h2, h3⟩ | h1)
      · exact ⟨q, o', h1, by simp [h2], h3⟩
      · exact ⟨x, o, hx, by simp, h1⟩
    · rintro ⟨q, o', h1, h2, h3⟩
      by_cases e : q = x
      · subst e
        rw [hx] at h1
        injection h1 with h1
        subst h1
        exact .inr h3
      · exact .inl ⟨q, o', h1, by simpa [e] using h2, h3⟩
  · have := objsOf_length o.fields
    have := h.len
    rw [List.length_append]
    omega

def regsI (f : Int → Int) (c : Mc) (i : Nat) : Nat → Nat → Val := fun t r => if t < i then mvF f (c.regs t r) else c.regs t r
theorem regsI_zero (f : Int → Int) (c : Mc) : regsI f c 0 = c.regs := by funext t r; simp [regsI]
theorem regsI_succ (f : Int → Int) (c : Mc) (i : Nat) : upd (regsI f c i) i (fun r => mvF f (c.regs i r)) = regsI f c (i + 1) := by
  funext t r
  by_cases e : t = i
  · subst e; rw [upd_same]; simp [regsI]
  · rw [upd_other _ _ e]
    unfold regsI
    by_cases h : t < i
    · rw [if_pos h, if_pos (by omega)]
    · rw [if_neg h, if_neg (by omega)]

/-- What holds between two threads of a visit. -/
structure VisSt (I : World → Roles → List Int → Prop) (f : Int → Int) (w : World) (B mb k : Nat) (ρ : Roles) (c : Mc) (m : Mem) (i : Nat) (wr : World) : Prop where
  ex : ∃ (ρr : Roles) (mr : Mem) (txi : Nat → Tx) (ks : List Int), Mach wr B mb k ρr ⟨c.xs, c.top, regsI f c i, txi, c.coll⟩ mr ∧ I wr ρr ks ∧ MovedW ρ w ρr wr ∧ (∀ t, t < i → FTx f (c.tx t) (txi t)) ∧ (∀ t, i ≤ t → txi t = c.tx t) ∧ (∀ q, q ∈ ks ↔ ∃ t, t < i ∧ HeldBy c t q) ∧ ks.length ≤ 9000 * i ∧ mr.wa = m.wa ∧ mr.wcap = m.wcap

end Go.Proofs.Ytpdcaoagpjcgbab

/-
  The walk of visit of package stm, with any closure: all of it. It proves no statement by itself.
-/
namespace Go.Proofs.Ytpdcaoagpjcgbab
open Go.RowKit Stm Go.Maps

/-- What visit leaves. -/
def VisPost (I : World → Roles → List Int → Prop) (f : Int → Int) (w : World) (B mb k : Nat) (ρ : Roles) (c : Mc) (m : Mem) (e : Ending) (w' : World) : Prop :=
  e = .returned (.tuple #[]) ∧ VisSt I f w B mb k ρ c m 4 w'

set_option maxHeartbeats 3200000 in
set_option maxRecDepth 100000 in
theorem machVisit_any {F : FuncId} {cap : Value} {I : World → Roles → List Int → Prop} {f : Int → Int} (C : Clo F cap I f) (B mb k : Nat) (ρ : Roles) (c : Mc) (m : Mem) (w : World) (h : Mach w B mb k ρ c m) (hI : I w ρ []) (hB : B ≤ w.heap.size) (hk : k ≤ 1000) (hv : VisOk c f) :
    Calls Try.prog 123 #[.pointer (some ⟨mb, 0, none⟩), .func (.func F) #[] #[cap]] w (VisPost I f w B mb k ρ c m) := by
  have HC := Lib.hide C
  have H := Lib.hide h
  have HI := Lib.hide hI
  have HV := Lib.hide hv
  have hen := C.enter
  clear C h hI hv
  go_enter Try.func123, Try.ntmps123
  go_wp2
  go_loopw [8] (fun u wr => ∃ i : Nat, i ≤ 4 ∧ u = .int .i64 i ∧ VisSt I f w B mb k ρ c m i wr) (fun u _ => 4 - (intOf u).toNat)
  case atStart => exact ⟨0, by omega, rfl, ⟨⟨ρ, m, c.tx, [], by rw [regsI_zero]; exact H.out, HI.out, MovedW.refl _ _, fun t ht => absurd ht (Nat.not_lt_zero _), fun _ _ => rfl, fun q => ⟨fun h => (by cases h), fun ⟨t, ht, _⟩ => absurd ht (Nat.not_lt_zero _)⟩, by simp, rfl, rfl⟩⟩⟩
  case round =>
    obtain ⟨t, ht4, rfl, hst⟩ := hrel
    by_cases ht : t < 4
    · obtain ⟨ρr, mr, txi, ks, hm, hi, hmv, hdone, hrest, hmem, hlen, hwa, hwc⟩ := hst.ex
      have hwB : B ≤ wr.heap.size := Nat.le_trans hB hmv.size
      have htx : txi t = c.tx t := hrest t (Nat.le_refl _)
      have hrg : regsI f c t t = c.regs t := by funext r; simp [regsI]
      have hlow : ∀ i, ρr i ≠ none → i < wr.heap.size := fun i hi => (hm.low i hi).2
      have hmb6 : ρr mb ≠ some (6, 0, 0) := by rw [hm.rmb]; simp
      have hrow := hm.rowRegs ht
      dsimp only at hrow
      rw [hrg] at hrow
      have V1 := Lib.hide (visitValues_some HC.out mb (2 + t * 8) 4 4 (list4 (c.regs t)) wr ρr ks hi hlow rfl (by omega) (by omega) hrow hmb6 (fun i hi => by rw [list4_getD _ hi]; exact HV.out.regs t i) (by omega))
      have i1 : (0 : Int) ≤ (t : Int) := by omega
      have i2 : (t : Int) < 4 := by omega
      have HM := Lib.hide hm
      have HMV := Lib.hide hmv
      have HDN := Lib.hide hdone
      have HRS := Lib.hide hrest
      have HME := Lib.hide hmem
      have HTX := Lib.hide htx
      have HWA := Lib.hide hwa
      have HWC := Lib.hide hwc
      have ml := hm.blk.lt
      clear hst hm hi hmv hdone hrest hmem hlow hrow hmb6 htx hrg hwa hwc
      go_wp2_with fail
      refine V1.out.mono ?_
      rintro e w2 ⟨rfl, ρ2, hi2, hc2⟩
      -- the registers
      have hs2 := hc2.size
      rw [puts_size] at hs2
      have hm2 := (HM.out.setRegs ht (fun r => mvF f (c.regs t r))).movedC hc2 (by rw [puts_size]; exact hwB)
      dsimp only at hm2
      rw [regsI_succ] at hm2
      have hmv2 := HMV.out.trans ((Moved.put HM.out (2 + t * 8) (regCells (fun r => mvF f (c.regs t r)))).w.trans hc2.w)
      have hl2 : ∀ i, ρ2 i ≠ none → i < w2.heap.size := fun i hi => (hm2.low i hi).2
      have hrow2 := hm2.rowSaved ht
      dsimp only at hrow2
      rw [HTX.out] at hrow2
      have V2 := Lib.hide (visitValues_some HC.out mb (34 + t * 11 + 1) 4 4 (list4 (c.tx t).saved) w2 ρ2 _ hi2 hl2 rfl (by omega) (by have := objsOf_length (list4 (c.regs t)); simp [list4] at this ⊢; omega) hrow2 (by rw [hm2.rmb]; simp) (fun i hi => by rw [list4_getD _ hi]; exact HV.out.saved t i) (by omega))
      have HM2 := Lib.hide hm2
      have MV2 := Lib.hide hmv2
      have ml2 := hm2.blk.lt
      have hwB2 : B ≤ w2.heap.size := by omega
      clear hc2 hm2 hmv2 hl2 hrow2 hi2 V1 HM HMV ml
      go_wp2_with fail
      refine V2.out.mono ?_
      rintro e w3 ⟨rfl, ρ3, hi3, hc3⟩
      -- the saved registers
      have hs3 := hc3.size
      rw [puts_size] at hs3
      have hm3 := (HM2.out.setSaved ht (fun r => mvF f ((c.tx t).saved r))).movedC hc3 (by rw [puts_size]; exact hwB2)
      dsimp only at hm3
      rw [HTX.out] at hm3
      have hmv3 := MV2.out.trans ((Moved.put HM2.out (34 + t * 11 + 1) (regCells (fun r => mvF f ((c.tx t).saved r)))).w.trans hc3.w)
      have hk3 : (ks ++ objsOf (list4 (c.regs t)) ++ objsOf (list4 (c.tx t).saved)).length ≤ 9000 * t + 8 := by
        have h1 := objsOf_length (list4 (c.regs t))
        have h2 := objsOf_length (list4 (c.tx t).saved)
        simp [list4] at h1 h2 ⊢
        omega
      have V3 := Lib.hide (visitRec HC.out hm3 ht hk _ hi3 (by omega) (by simp only [upd_same]; exact HV.out.recInj t))
      simp only [upd_same] at V3
      have q3 := hm3.blk.recd t ht
      have ql3 := hm3.blk.lt
      have qw3 := hm3.blk.warm (34 + t * 11 + 9)
      have HM3 := Lib.hide hm3
      have MV3 := Lib.hide hmv3
      have hwB3 : B ≤ w3.heap.size := by omega
      clear hc3 hm3 hmv3 hi3 V2 HM2 MV2 ml2
      go_wp2_with fail
      refine V3.out.mono ?_
      rintro e w4 ⟨b4, ρ4, ks4, m4, rfl, hi4, hc4, hb4, hbl4, hr4, hmap4, hmm4, hks4, hkl4⟩
      -- what it has recorded
      have hm4 := HM3.out.movedC hc4 hwB3
      obtain ⟨hre, hrec4⟩ := unRec_eq hmm4
      rw [← hre] at hmap4
      have c4 := hm4.blk.recd t ht
      have cw4 := hm4.blk.warm (34 + t * 11 + 9)
      have cl4 := hm4.blk.lt
      have co4 := hm4.blk.own t ht
      have hs4 := hc4.size
      have hm5 := hm4.newRec ht hr4 (by omega) hbl4 (Nat.le_refl k) _ hmap4
      dsimp only at hm5
      rw [upd_upd] at hm5
      simp only [upd_same] at hm5
      have hmv5 : MovedW ρ w (fun i => if i = b4 then some (3, t, 0) else ρ4 i) (puts w4 mb (34 + t * 11 + 9) [.map (some b4)]) := (MV3.out.trans (hc4.w.trans (Moved.put hm4 (34 + t * 11 + 9) [.map (some b4)]).w)).roles (fun i hi hn => by
        have := MV3.out.size
        show (if i = b4 then some (3, t, 0) else ρ4 i) = none
        rw [if_neg (by omega)]; exact hn)
      have hi5 : I (puts w4 mb (34 + t * 11 + 9) [.map (some b4)]) (fun i => if i = b4 then some (3, t, 0) else ρ4 i) (ks ++ objsOf (list4 (c.regs t)) ++ objsOf (list4 (c.tx t).saved) ++ ks4) :=
        HC.out.kept _ ρ4 _ _ _ hi4 (fun i hi => puts_other _ _ _ _ _ (fun e => by rw [e, hm4.rmb] at hi; cases hi)) (by rw [puts_size]; exact Nat.le_refl _) (fun i hi => by
          show (if i = b4 then some (3, t, 0) else ρ4 i) = _
          rw [if_neg (fun e => by rw [e, hr4] at hi; cases hi)]; exact hi)
      rw [puts_one] at hm5 hmv5 hi5
      generalize hw5 : w4.setCell ⟨mb, 34 + t * 11 + 9, none⟩ (.map (some b4)) = w5 at hm5 hmv5 hi5
      have hs5 : w5.heap.size = w4.heap.size := by rw [← hw5]; simp [World.setCell]
      have hk5 : (ks ++ objsOf (list4 (c.regs t)) ++ objsOf (list4 (c.tx t).saved) ++ ks4).length ≤ 9000 * t + 8 + k := by
        rw [List.length_append]; omega
      have V5 := Lib.hide (visitOwn HC.out hm5 ht hk _ hi5 (by omega) (by simp only [upd_same]; exact HV.out.ownInj t))
      simp only [upd_same] at V5
      have q5 := hm5.blk.own t ht
      have ql5 := hm5.blk.lt
      have qw5 := hm5.blk.warm (34 + t * 11 + 10)
      have HM5 := Lib.hide hm5
      have MV5 := Lib.hide hmv5
      have HRE := Lib.hide hrec4
      have HK4 := Lib.hide hks4
      have hwB5 : B ≤ w5.heap.size := by omega
      have HW5 := Lib.hide hw5
      clear hm4 hm5 hmv5 hi4 hi5 hc4 hmap4 hmm4 hks4 hre hrec4 V3 HM3 MV3 hr4 q3 ql3 qw3 hw5
      go_wp2_with fail
      rw [HW5.out]
      clear c4 cw4 cl4 co4
      refine V5.out.mono ?_
      rintro e w6 ⟨b6, ρ6, ks6, m6, rfl, hi6, hc6, hb6, hbl6, hr6, hmap6, hmm6, hks6, hkl6⟩
      -- what it owns
      have hm6 := HM5.out.movedC hc6 hwB5
      have c6 := hm6.blk.own t ht
      have cw6 := hm6.blk.warm (34 + t * 11 + 10)
      have cl6 := hm6.blk.lt
      have hs6 := hc6.size
      obtain ⟨own', fa', fc', hown', hmeq, hm7⟩ := hm6.newOwn ht hr6 (by omega) hbl6 (Nat.le_refl k) f (by simp only [upd_same]; exact HV.out.ownInj t) m6 hmap6 (by simp only [upd_same]; exact hmm6)
      dsimp only at hm7
      rw [upd_upd] at hm7
      simp only [upd_same] at hm7 hown'
      rw [hmeq] at hmap6
      have hmv7 : MovedW ρ w (reRole ρ6 t b6 f) (puts w6 mb (34 + t * 11 + 10) [.map (some b6)]) := (MV5.out.trans (hc6.w.trans (Moved.put hm6 (34 + t * 11 + 10) [.map (some b6)]).w)).roles (fun i hi hn => by
        have := MV5.out.size
        exact reRole_none hn (by omega))
      have hi7 : I (puts w6 mb (34 + t * 11 + 10) [.map (some b6)]) (reRole ρ6 t b6 f) (ks ++ objsOf (list4 (c.regs t)) ++ objsOf (list4 (c.tx t).saved) ++ ks4 ++ ks6) :=
        HC.out.kept _ ρ6 _ _ _ hi6 (fun i hi => puts_other _ _ _ _ _ (fun e => by rw [e, hm6.rmb] at hi; cases hi)) (by rw [puts_size]; exact Nat.le_refl _) (fun i hi => reRole_other hi hr6 (by simp))
      rw [puts_one] at hm7 hmv7 hi7
      generalize hw7 : w6.setCell ⟨mb, 34 + t * 11 + 10, none⟩ (.map (some b6)) = w7 at hm7 hmv7 hi7
      have hs7 : w7.heap.size = w6.heap.size := by rw [← hw7]; simp [World.setCell]
      have hk7 : (ks ++ objsOf (list4 (c.regs t)) ++ objsOf (list4 (c.tx t).saved) ++ ks4 ++ ks6).length ≤ 9000 * t + 8 + k + k := by
        rw [List.length_append]; omega
      have hmap7 : MapR w7 b6 k (ownV own' fa' fc') := by
        rw [← hw7]
        exact hmap6.kept (set_other _ _ _ _ _ (fun e => by rw [e, hm6.rmb] at hr6; cases hr6))
      have q7 := hm7.blk.own t ht
      simp only [upd_same] at q7
      have ql7 := hm7.blk.lt
      have HM7 := Lib.hide hm7
      have MV7 := Lib.hide hmv7
      have HI7 := Lib.hide hi7
      have HOW := Lib.hide hown'
      have HK6 := Lib.hide hks6
      have HP7 := Lib.hide hmap7
      have HW7 := Lib.hide hw7
      have hb67 : b6 < w7.heap.size := by omega
      have hr67 : reRole ρ6 t b6 f b6 = some (4, t, 0) := by simp [reRole]
      clear hm6 hm7 hmv7 hi6 hi7 hc6 hmap6 hmap7 hmm6 hks6 hown' V5 HM5 MV5 hr6 q5 ql5 qw5 hw7 hmeq HW5
      go_wp2_with (first
        | (at_range; rw [HW7.out]; refine wpList_range_R _ rfl _ 107 rfl 156 Try.underlying107 b6 k _ rfl HP7.out ?_; intro w8 cnt8 hrg8 hg8 hs8)
        | go_in)
      go_frame
      clear c6 cw6 cl6
      have hbe8 : Below w7.heap.size w7 w8 := ⟨hg8.os, hg8.tape, hg8.output, hg8.size, fun i hi => hg8.block i hi (by simp)⟩
      have hl7 : ∀ i, reRole ρ6 t b6 f i ≠ none → i < w7.heap.size := fun i hi => (HM7.out.low i hi).2
      have HRG8 := Lib.hide hrg8
      have HBE8 := Lib.hide hbe8
      have HL7 := Lib.hide hl7
      have HR67 := Lib.hide hr67
      have hw7B : B ≤ w7.heap.size := by omega
      clear hrg8 hg8 hs8 hbe8 hl7 hr67 hs2 hs3 hs4 hs5 hs6 hs7
      go_loopw [53] (fun _ wq => ∃ (left : Int → Bool) (cnt : Nat) (ρq : Roles) (kf : List Int), RangeR wq b6 w7.heap.size k (ownV own' fa' fc') left cnt ∧ Mach wq B mb k ρq ⟨c.xs, c.top, regsI f c (t + 1), upd txi t ⟨(c.tx t).isOpen, fun r => mvF f ((c.tx t).saved r), unRec m4, doneF f own' left⟩, c.coll⟩ ⟨mr.wa, mr.wcap, upd mr.rm t (some b4), upd mr.om t (some b6), upd mr.fa t fa', upd mr.fc t fc', mr.ra, mr.rcap⟩ ∧ I wq ρq (ks ++ objsOf (list4 (c.regs t)) ++ objsOf (list4 (c.tx t).saved) ++ ks4 ++ ks6 ++ kf) ∧ MovedW ρ w ρq wq ∧ ρq w7.heap.size = none ∧ FieldsSt own' left kf k cnt ∧ w7.heap.size ≤ wq.heap.size ∧ ρq b6 = some (4, t, 0)) (fun _ wq => wq.rangeLeft b6 w7.heap.size)
      case atStart =>
        refine ⟨_, cnt8, reRole ρ6 t b6 f, [], HRG8.out, ?_, ?_, MV7.out.trans (MovedW.below HBE8.out), ?_, FieldsSt.start (fun q => by cases e : own' q <;> simp [ownV, e]) HRG8.out.le, HBE8.out.size, HR67.out⟩
        · rw [doneF_start _ _ _ (fun q => by cases e : own' q <;> simp [ownV, e])]
          exact HM7.out.next HBE8.out
        · rw [List.append_nil]
          exact HC.out.below HI7.out HBE8.out HL7.out
        · exact Classical.byContradiction fun hn => by have := HL7.out _ hn; omega
      case round =>
        obtain ⟨left, cnt, ρq, kf, hrg, hmq, hiq, hmvq, hrq, hfs, hwq, hrb⟩ := hrel
        have HRG := Lib.hide hrg
        have HMQ := Lib.hide hmq
        have HIQ := Lib.hide hiq
        have HVQ := Lib.hide hmvq
        have HRQ := Lib.hide hrq
        have HFS := Lib.hide hfs
        have HRB := Lib.hide hrb
        clear hrg hmq hiq hmvq hrq hfs hrb HRG8 HBE8
        go_wp2_with (first
          | (at_next; refine wpList_next_R _ rfl _ rfl mkOrig b6 w7.heap.size k _ _ _ ownV_inv rfl HRG.out ?_ ?_)
          | go_in)
        · intro hc0 hl0
          have hd := doneF_end (f := f) (own := own') hl0
          have hfin : VisSt I f w B mb k ρ c m (t + 1) wr := by
            refine ⟨ρq, _, _, _, HMQ.out, HIQ.out, HVQ.out, fun u hu => ?_, fun u hu => ?_, fun q => ?_, ?_, HWA.out, HWC.out⟩
            · by_cases e : u = t
              · subst e
                rw [upd_same]
                refine ⟨rfl, fun _ => rfl, HRE.out, fun q o' => ?_⟩
                dsimp only
                rw [hd]
                constructor
                · rintro ⟨o, ho, he⟩
                  obtain ⟨p, hp, hf⟩ := (HOW.out q o).1 ho
                  exact ⟨p, o, hp, hf, he⟩
                · rintro ⟨p, o, hp, hf, he⟩
                  exact ⟨o, (HOW.out q o).2 ⟨p, hp, hf⟩, he⟩
              · rw [upd_other _ _ e]
                exact HDN.out u (by omega)
            · rw [upd_other _ _ (by omega)]
              exact HRS.out u (by omega)
            · simp only [List.mem_append]
              rw [HME.out, mem_objsOf, mem_objsOf, mem_list4, mem_list4, HK4.out, HK6.out, HFS.out.mem, recV_some, ownV_isSome]
              constructor
              · rintro (((((⟨u, hu, hh⟩ | hh) | hh) | hh) | hh) | ⟨q', o, h1, _, h3⟩)
                · exact ⟨u, by omega, hh⟩
                · exact ⟨t, by omega, .inl hh⟩
                · exact ⟨t, by omega, .inr (.inl hh)⟩
                · exact ⟨t, by omega, .inr (.inr (.inl hh))⟩
                · exact ⟨t, by omega, .inr (.inr (.inr (.inl hh)))⟩
                · obtain ⟨p, hp, _⟩ := (HOW.out q' o).1 h1
                  exact ⟨t, by omega, .inr (.inr (.inr (.inr ⟨p, o, hp, h3⟩)))⟩
              · rintro ⟨u, hu, hh⟩
                by_cases e : u = t
                · subst e
                  rcases hh with hh | hh | hh | hh | ⟨p, o, hp, h3⟩
                  · exact .inl (.inl (.inl (.inl (.inr hh))))
                  · exact .inl (.inl (.inl (.inr hh)))
                  · exact .inl (.inl (.inr hh))
                  · exact .inl (.inr hh)
                  · exact .inr ⟨f p, o, (HOW.out (f p) o).2 ⟨p, hp, rfl⟩, hl0 _, h3⟩
                · exact .inl (.inl (.inl (.inl (.inl ⟨u, by omega, hh⟩))))
            · have := HFS.out.len
              rw [List.length_append]
              omega
          have HFIN := Lib.hide hfin
          clear hl0 hd hfin
          go_wp2
          go_roundw
          case rel => exact ⟨t + 1, by omega, by go_num, HFIN.out⟩
          case measure => simp [intOf]; omega
        · intro x ver a len cp w9 cnt9 hfx hlx hx hrg9 hlt9 hg9 hs9 hent
          obtain ⟨o, hown, rfl, rfl, rfl, rfl⟩ := ownV_some hx
          unfold mkOrig at hent
          dsimp only at hent
          obtain ⟨p0, hp0, hfp0⟩ := (HOW.out x o).1 hown
          obtain ⟨hfl, hff⟩ := HV.out.fields t p0 o hp0
          obtain ⟨X, hX⟩ : ∃ X, w9.alloc (.cells #[.int .i64 o.ver, .slice (fa' x) o.fields.length (fc' x)] 156) = X := ⟨_, rfl⟩
          have hlq : ∀ i, ρq i ≠ none → i < wr.heap.size := fun i hi => (HMQ.out.low i hi).2
          have hmq9 := HMQ.out.kept (w' := w9) (fun i hi => hg9.block i (hlq i hi) (fun e => by rw [Option.some.inj e] at hi; exact hi HRQ.out)) hg9.size
          have hbX : Below w9.heap.size w9 X := by rw [← hX]; exact (by repeat (first | exact Below.refl _ _ | assumption | refine Below.drew ?_ | refine below_drewN ?_ _ | refine Below.allocs ?_ | refine Below.next ?_ (by assumption) | refine Below.setCell ?_ (by dsimp only; omega) _))
          have hmX := hmq9.next hbX
          have hXs : X.heap.size = w9.heap.size + 1 := by rw [← hX]; simp
          have hiX : I X ρq (ks ++ objsOf (list4 (c.regs t)) ++ objsOf (list4 (c.tx t).saved) ++ ks4 ++ ks6 ++ kf) := HC.out.below (HC.out.grown HIQ.out hg9 (by rw [HRQ.out]; simp) hlq) hbX (fun i hi => by rw [hs9]; exact hlq i hi)
          have hrX : RangeR X b6 w7.heap.size k (ownV own' fa' fc') (fun z => left z && !decide (z = x)) cnt9 := hrg9.kept (hbX.block b6 (by omega)) (hbX.block _ hrg9.lt)
          have hmvX : MovedW ρ w ρq X := (HVQ.out.grown hg9 MV7.out.size).trans (MovedW.below hbX)
          have hdx : doneF f own' left x = some o := (doneF_at hlx).trans hown
          have hlX : ∀ i, ρq i ≠ none → i < X.heap.size := fun i hi => (hmX.low i hi).2
          have hkf : (ks ++ objsOf (list4 (c.regs t)) ++ objsOf (list4 (c.tx t).saved) ++ ks4 ++ ks6 ++ kf).length ≤ 9000 * t + 8 + k + k + 6 * k := by
            have := HFS.out.len
            rw [List.length_append]
            omega
          have hfx2 := (hmX.txs t ht).fields
          simp only [upd_same] at hfx2
          obtain ⟨ho5, ho6⟩ := hfx2 x o hdx
          obtain ⟨b0, b1, b2, b3, b4'⟩ := Box2.new w9 (.int .i64 o.ver) (.slice (fa' x) o.fields.length (fc' x)) 156
          rw [hs9] at b0 b1 b2 b3 b4'
          obtain ⟨g, hg⟩ : ∃ g, o.fields.length = 0 ∨ fa' x = some ⟨g, 0, none⟩ := by
            rcases Nat.eq_zero_or_pos o.fields.length with h0 | h0
            · exact ⟨0, .inl h0⟩
            · obtain ⟨_, g, e, _⟩ := OwnV.row ho5 h0
              exact ⟨g, .inr e⟩
          have V9 : Calls Try.prog 128 #[.slice (fa' x) o.fields.length (fc' x), .func (.func F) #[] #[cap]] X (VPost I f X ρq (ks ++ objsOf (list4 (c.regs t)) ++ objsOf (list4 (c.tx t).saved) ++ ks4 ++ ks6 ++ kf) g 0 o.fields) := by
            rcases Nat.eq_zero_or_pos o.fields.length with h0 | h0
            · have e : o.fields = [] := List.length_eq_zero_iff.1 h0
              rw [h0, e]
              exact visitValues_none _ _ _ _ _ _ _ hiX hlX
            · have hga := hg.resolve_left (by omega)
              obtain ⟨_, g', e', _, hgl, _, _, hcells, hfrz⟩ := OwnV.row ho5 h0
              have eg : g' = g := by rw [hga] at e'; injection e' with e'; injection e' with e'; exact e'.symm
              subst eg
              rw [hga]
              refine visitValues_some HC.out g' 0 o.fields.length (fc' x) o.fields X ρq _ hiX hlX rfl (by omega) (by omega) ⟨hgl, fun i hi => by simpa using hcells i hi, hfrz⟩ (by rw [ho6 g' (by rw [hga]; rfl)]; simp) (fun i hi => ?_) (by omega)
              exact hff _ (by rw [val_getD hi]; exact List.getElem_mem hi)
          have HVV := Lib.hide V9
          have HMX := Lib.hide hmX
          have HRX := Lib.hide hrX
          have HVX := Lib.hide hmvX
          have HDX := Lib.hide hdx
          have HG := Lib.hide hg
          have HO6 := Lib.hide ho6
          have HOWN := Lib.hide hown
          have HLL := Lib.hide HRG.out.left_eq
          have hX7 : w7.heap.size < X.heap.size := by have := hrg9.lt; omega
          have hb6X : b6 < X.heap.size := by omega
          have hXq : wr.heap.size ≤ X.heap.size := by omega
          have hFL := Lib.hide hfl
          have HXE := Lib.hide hX
          clear hx hrg9 hg9 hmq9 hbX hmX hiX hrX hmvX hdx hlX hfx2 ho5 ho6 hg V9 hown hp0 hfp0 hff hlq hfl hX
          go_wp2_with fail
          rw [HXE.out]
          refine HVV.out.mono ?_
          rintro e w10 ⟨rfl, ρ10, hi10, hc10⟩
          have hpz := puts_size (vcells (o.fields.map (mvF f))) X g 0
          have hm10 := (HMX.out.setFields ht (q := x) (o := o) (by simp only [upd_same]; exact HDX.out) (o.fields.map (mvF f)) (by simp) g (by simp only [upd_same]; exact HG.out)).movedC hc10 (by rw [hpz]; omega)
          dsimp only at hm10
          rw [upd_upd] at hm10
          simp only [upd_same] at hm10
          rw [← doneF_step HOWN.out] at hm10
          have hgr : o.fields.length = 0 ∨ ρq g = some (5, t, x) := HG.out.imp id (fun e => HO6.out g (by rw [e]; rfl))
          have hpb : ∀ i, ρq i ≠ some (5, t, x) → (puts X g 0 (vcells (o.fields.map (mvF f)))).heap[i]? = X.heap[i]? := fun i hi => by
            rcases hgr with h0 | h0
            · have e : o.fields = [] := List.length_eq_zero_iff.1 h0
              rw [e]; rfl
            · exact puts_other _ _ _ _ _ (fun e => hi (by rw [e]; exact h0))
          have hmv10 : MovedW ρ w ρ10 w10 := HVX.out.trans (MovedW.trans (ρ2 := ρq) (b := puts X g 0 (vcells (o.fields.map (mvF f)))) ⟨(puts_os _ X g 0).1, (puts_os _ X g 0).2.1, (puts_os _ X g 0).2.2, by rw [hpz]; exact Nat.le_refl _, fun i _ hn => hpb i (by rw [hn]; simp), fun _ _ hn => hn⟩ hc10.w)
          have hr10 : RangeR w10 b6 w7.heap.size k (ownV own' fa' fc') (fun z => left z && !decide (z = x)) cnt9 := HRX.out.kept ((hc10.block b6 (by rw [hpz]; exact hb6X) (by rw [HRB.out]; simp)).trans (hpb b6 (by rw [HRB.out]; simp))) ((hc10.block w7.heap.size (by rw [hpz]; exact hX7) (by rw [HRQ.out]; simp)).trans (hpb w7.heap.size (by rw [HRQ.out]; simp)))
          have hz10 := hc10.size
          rw [hpz] at hz10
          have r1 : ρ10 w7.heap.size = none := (hc10.roles _ (by rw [hpz]; exact hX7)).trans HRQ.out
          have r2 : ρ10 b6 = some (4, t, 0) := (hc10.roles _ (by rw [hpz]; exact hb6X)).trans HRB.out
          have HM10 := Lib.hide hm10
          have HV10 := Lib.hide hmv10
          have HR10 := Lib.hide hr10
          have HI10 := Lib.hide hi10
          clear hm10 hmv10 hr10 hi10 hc10 hpb hgr
          go_wp2
          go_roundw
          case rel =>
            refine ⟨_, cnt9, ρ10, kf ++ objsOf o.fields, HR10.out, HM10.out, ?_, HV10.out, r1, HFS.out.step HOWN.out hFL.out hlt9, by omega, r2⟩
            rw [← List.append_assoc]
            exact HI10.out
          case measure =>
            rw [HR10.out.left_eq, HLL.out]
            exact hlt9
    · obtain rfl : t = 4 := by omega
      have HP := Lib.hide (show VisPost I f w B mb k ρ c m (.returned (.tuple #[])) wr from ⟨rfl, hst⟩)
      clear hst
      go_wp2
      go_end0
      exact HP.out
end Go.Proofs.Ytpdcaoagpjcgbab

/-
  append to a list of the call's own: it stays in its block, or it goes to a new one. It proves no statement by itself.
-/
namespace Go.Proofs.Ytpdcaoagpjcgbab
open Go.RowKit Stm

section
variable {P : Program} (w : World)
theorem run_append_at (base : Nat) (t ty e : TypeId) (i : TypeInfo) (z : Value) (size bytes : Nat) (ht : P.underlying t = some (.slice e)) (hi : P.info? e = some i) (hz : i.zero = some z)
    (hsize : i.size = size) (hby : i.bytes = bytes) (hzs : z.cells.size = size) (hsz : 0 < size)
    (v : Value) (n : Nat) (xs : List Value) (hown : w.ownsRow base e size v n xs)
    (a : Addr) (m c : Nat) (news : List Value) (hl : news.length = m * size) (hnews : ∀ j u, news[j]? = some u → w.cell? (a.add j) = some u) (h1 : ∀ u ∈ news, u.oneCell' = true)
    (h63 : n + m ≤ maxLen) (hbytes : (n + m) * bytes ≤ 140737488355328) (hbase : base ≤ w.heap.size) :
    ∃ v' w', (Builtin.append_ #[t, t] ty #[v, .slice (some a) m c]).run P w = .ok v' w' ∧ w'.ownsRow base e size v' (n + m) (xs ++ news) ∧ w.grownBy w' v.ownBlock ∧ (∀ g, v'.ownBlock = some g → v.ownBlock = some g ∨ g = w.heap.size) ∧ w'.ownsRow base e size v n xs := by
  obtain ⟨v', w', hr, h2, h3, h4⟩ := run_append_own (P := P) w base t ty e i z size bytes ht hi hz hsize hby hzs hsz v n xs hown a m c news hl hnews h1 h63 hbytes hbase
  refine ⟨v', w', hr, h2, h3, ?_⟩
  subst hsize
  subst hby
  rcases hown.2 with ⟨rfl, rfl⟩ | ⟨b, cap, cur, rfl, hbg, hgb, hnc, hcm, hcs, htake⟩
  · refine ⟨fun g hg => ?_, ⟨hown.1, .inl ⟨rfl, rfl⟩⟩⟩
    by_cases hm : m = 0
    · rw [h4.2 ⟨rfl, hm⟩] at hg
      cases hg
    · have hr2 := run_append_nil (P := P) w t ty e i z ht hi hz a m c news hl hnews (by omega) (by simp only [maxLen] at h63; omega) (by have hb := hbytes; simp only [Nat.zero_add] at hb; omega)
      rw [hr] at hr2
      injection hr2 with e1 e2
      rw [e1] at hg
      exact .inr (Option.some.inj hg).symm
  · by_cases hroom : n + m ≤ cap
    · have hfit : n * i.size + news.length ≤ cur.size := by rw [hl, hcs, ← Nat.add_mul]; exact Nat.mul_le_mul_right _ hroom
      have hr2 := run_append_room (P := P) w t ty e i ht hi b n cap cur hgb a m c news hl hnews h1 hroom hfit
      rw [hr] at hr2
      injection hr2 with e1 e2
      refine ⟨fun g hg => .inl (by rw [e1] at hg; exact hg), hown.1, ?_⟩
      rw [e1] at h2
      rcases h2.2 with ⟨h5, _⟩ | ⟨g', cap', cur', hv', hg1, hg2, hg3, hg4, hg5, hg6⟩
      · cases h5
      · simp only [Value.slice.injEq] at hv'
        obtain ⟨hv1, _, hv3⟩ := hv'
        injection hv1 with hv1
        injection hv1 with hv1
        subst hv1 hv3
        refine .inr ⟨b, cap, cur', rfl, hg1, hg2, hnc, hg4, hg5, ?_⟩
        have h7 := congrArg (List.take (n * i.size)) hg6
        rw [List.take_take, Nat.min_eq_left (by rw [Nat.add_mul]; omega), List.take_left' hown.1] at h7
        exact h7
    · have holds : ∀ j u, xs[j]? = some u → w.cell? ((⟨b, 0, none⟩ : Addr).add j) = some u := hown.cells (g := b) rfl
      have hr2 := run_append_grow (P := P) w t ty e i z ht hi hz ⟨b, 0, none⟩ n cap xs hown.1 holds a m c news hl hnews (by omega) (by simp only [maxLen] at h63; omega) (growslice_fits (by omega) hbytes)
      rw [hr] at hr2
      injection hr2 with e1 e2
      refine ⟨fun g hg => .inr (by rw [e1] at hg; exact (Option.some.inj hg).symm), hown.1, .inr ⟨b, cap, cur, rfl, hbg, ?_, hnc, hcm, hcs, htake⟩⟩
      rw [e2]
      have hlt : b < w.heap.size := by
        rcases Nat.lt_or_ge b w.heap.size with h' | h'
        · exact h'
        · rw [Array.getElem?_eq_none h'] at hgb; cases hgb
      exact (Below.heap_alloc w.drew _ b hlt).trans hgb

theorem wpList_append_at {ops : Array Oper} {rest : List Oper} {o : Oper} {a : Go.Act} {Q : Exit → Go.Act → World → Prop} (hgd : o.guard = none) (s x : Operand) (t : TypeId)
    (ho : o.op = .call { callee := .builtin .append, args := #[s, x], argTypes := #[t, t] })
    (base : Nat) (e : TypeId) (i : TypeInfo) (z : Value) (size bytes : Nat) (ht : P.underlying t = some (.slice e)) (hi : P.info? e = some i) (hz : i.zero = some z)
    (hsize : i.size = size) (hby : i.bytes = bytes) (hzs : z.cells.size = size) (hsz : 0 < size)
    (v : Value) (n : Nat) (xs : List Value) (hs : a.eval s = v) (hown : w.ownsRow base e size v n xs)
    (ad : Addr) (m c : Nat) (news : List Value) (hx : a.eval x = .slice (some ad) m c) (hl : news.length = m * size) (hnews : ∀ j u, news[j]? = some u → w.cell? (ad.add j) = some u) (h1 : ∀ u ∈ news, u.oneCell' = true)
    (h63 : n + m ≤ maxLen) (hbytes : (n + m) * bytes ≤ 140737488355328) (hbase : base ≤ w.heap.size)
    (h : ∀ v' w', w'.ownsRow base e size v' (n + m) (xs ++ news) → w.grownBy w' v.ownBlock → (∀ g, v'.ownBlock = some g → v.ownBlock = some g ∨ g = w.heap.size) → w'.ownsRow base e size v n xs → wpList P ops Q rest (a.put o.dst v') w') : wpList P ops Q (o :: rest) a w := by
  refine wpList_plain hgd fun K hK => ?_
  obtain ⟨v', w', hr, h2, h3, h4, h5⟩ := run_append_at (P := P) w base t o.type e i z size bytes ht hi hz hsize hby hzs hsz v n xs hown ad m c news hl hnews h1 h63 hbytes hbase
  unfold Oper.wp execOp
  simp only [ho, resolve, invoke, builtin, Sem.run_bind, Sem.run_pure, Result.andThen_ok, List.map_toArray, List.map_cons, List.map_nil, hs, hx, hr]
  exact hK _ _ (h v' w' h2 h3 h4 h5)

/-- append of nothing. -/
theorem wpList_append_none {ops : Array Oper} {rest : List Oper} {o : Oper} {a : Go.Act} {Q : Exit → Go.Act → World → Prop} (hgd : o.guard = none) (s x : Operand) (t : TypeId)
    (ho : o.op = .call { callee := .builtin .append, args := #[s, x], argTypes := #[t, t] })
    (base : Nat) (e : TypeId) (i : TypeInfo) (size : Nat) (ht : P.underlying t = some (.slice e)) (hi : P.info? e = some i)
    (v : Value) (n : Nat) (xs : List Value) (hs : a.eval s = v) (hown : w.ownsRow base e size v n xs) (hx : a.eval x = .slice none 0 0)
    (h : wpList P ops Q rest (a.put o.dst v) w) : wpList P ops Q (o :: rest) a w := by
  refine wpList_plain hgd fun K hK => ?_
  have hr := run_append_owned_none (P := P) w base t o.type e i size ht hi v n xs hown
  unfold Oper.wp execOp
  simp only [ho, resolve, invoke, builtin, Sem.run_bind, Sem.run_pure, Result.andThen_ok, List.map_toArray, List.map_cons, List.map_nil, hs, hx, hr]
  exact hK _ _ h
end
end Go.Proofs.Ytpdcaoagpjcgbab

/-
  The walks of roots of package stm and of its closure. They prove no statement by themselves.
-/
namespace Go.Proofs.Ytpdcaoagpjcgbab
open Go.RowKit Stm

/-- The list of roots, in a variable at block rb. -/
def RootsAt (rb : Nat) (w : World) (ρ : Roles) (s : List Int) : Prop :=
  ∃ v, w.heap[rb]? = some (.cells #[v] 25 (0, 0)) ∧ ρ rb = some (6, 0, 0) ∧ Own w (rb + 1) v s ∧ ∀ g, v.ownBlock = some g → ρ g = some (6, 0, 0)

set_option maxHeartbeats 800000 in
set_option maxRecDepth 100000 in
theorem roots1_any (rb : Nat) (w : World) (ρ : Roles) (s : List Int) (p : Int) (h : RootsAt rb w ρ s) (hl : ∀ i, ρ i ≠ none → i < w.heap.size) (hs : s.length ≤ 100000) :
    Calls Try.prog 124 #[.int .i64 p, .pointer (some ⟨rb, 0, none⟩)] w (fun e w' => e = .returned (.int .i64 p) ∧ ∃ ρ', RootsAt rb w' ρ' (s ++ [p]) ∧ MovedC ρ w ρ' w') := by
  obtain ⟨i0, hi0, hz0, hz1, hz2⟩ := info_parts Try.intInfo
  obtain ⟨v, h1, h2, h3, h4⟩ := h
  have c1 := cell_of_one h1
  have hlt := lt_of_block h1
  have H1 := Lib.hide h1
  have H2 := Lib.hide h2
  have H3 := Lib.hide h3
  have H4 := Lib.hide h4
  have HL := Lib.hide hl
  have HSL := Lib.hide hs
  clear h1 h2 h3 h4 hl hs
  go_enter Try.func124, Try.ntmps124
  go_wp2_with (at_builtin; refine wpList_append_at _ rfl (.tmp 4) (.tmp 6) 25 rfl (rb + 1) 3 i0 (.int .i64 0) 1 8 Try.underlying25 hi0 hz0 hz1 hz2 rfl (by decide) v s.length _ rfl (World.ownsRow.alloc H3.out _) ⟨w.heap.size, 0, none⟩ 1 1 [.int .i64 p] rfl rfl (cell_one_new _ _ _) ?c2 ?c3 ?c4 ?c5 ?_)
  case c2 => intro u hu; simp at hu; subst hu; rfl
  case c3 => have := HSL.out; unfold maxLen; omega
  case c4 => have := HSL.out; omega
  case c5 => simp; omega
  intro v' w2 hown' hg2 hat _
  obtain ⟨g5, cp5, cur5, rfl, _⟩ := hown'.2.resolve_left (fun h => by omega)
  have hvb : ∀ g, v.ownBlock = some g → rb + 1 ≤ g := fun g hg => (World.ownsRow.lt H3.out g hg).1
  have hvb' : ∀ g, (Value.slice (some ⟨g5, 0, none⟩) (s.length + 1) cp5).ownBlock = some g → rb + 1 ≤ g ∧ g < w2.heap.size := fun g hg => World.ownsRow.lt hown' g hg
  have hA : ∀ i, i < w.heap.size → v.ownBlock ≠ some i → w2.heap[i]? = w.heap[i]? := fun i hi hn => by
    rw [hg2.block i (by simp; omega) (fun e => hn e.symm), Below.heap_alloc _ _ _ hi]
  have hb2 : w2.heap[rb]? = some (.cells #[v] 25 (0, 0)) := (hA rb hlt (fun e => by have := hvb rb e; omega)).trans H1.out
  have c2 := cell_of_one hb2
  have hsz2 := hg2.size
  rw [show (w.alloc (.cells #[.int .i64 p] 3)).heap.size = w.heap.size + 1 by simp] at hsz2
  have f2 : w2.frozen? ⟨rb, 0, none⟩ = false := by unfold World.frozen?; rw [hb2]; simp
  have HB2 := Lib.hide hb2
  have HO2 := Lib.hide hown'
  have HG2 := Lib.hide hg2
  have HA := Lib.hide hA
  have HVB := Lib.hide hvb'
  have HAT := Lib.hide hat
  have HS2 := Lib.hide hsz2
  have cl2 := lt_of_block HB2.out
  clear hown' hg2 hb2 hA hvb hvb' hat hsz2 c1 hlt
  go_wp2
  go_ret
  refine ⟨rfl, fun i => if (Value.slice (some ⟨g5, 0, none⟩) (s.length + 1) cp5).ownBlock = some i then some (6, 0, 0) else ρ i, ⟨(Value.slice (some ⟨g5, 0, none⟩) (s.length + 1) cp5), one_setCell HB2.out, ?_, ?_, fun g hg => if_pos hg⟩, ?_⟩
  · show (if (Value.slice (some ⟨g5, 0, none⟩) (s.length + 1) cp5).ownBlock = some rb then some (6, 0, 0) else ρ rb) = _
    split
    · rfl
    · exact H2.out
  · unfold Own
    rw [List.map_append, List.length_append]
    exact ownsRow_setCell_other HO2.out (fun e => by have := (HVB.out _ e).1; dsimp only at this; omega) _
  · refine ⟨HG2.out.os, HG2.out.tape, HG2.out.output, by have := HS2.out; simp [World.setCell]; omega, fun i hi hn => ?_, fun i hi => ?_, fun i hi hn => ?_⟩
    · rw [set_other _ _ _ _ _ (fun e => hn (by rw [e]; exact H2.out))]
      exact HA.out i hi (fun e => hn (H4.out i e))
    · show (if (Value.slice (some ⟨g5, 0, none⟩) (s.length + 1) cp5).ownBlock = some i then some (6, 0, 0) else ρ i) = ρ i
      split
      · rename_i hv'
        rcases HAT.out i hv' with h5 | h5
        · exact (H4.out i h5).symm
        · omega
      · rfl
    · by_cases hv' : (Value.slice (some ⟨g5, 0, none⟩) (s.length + 1) cp5).ownBlock = some i
      · exact ⟨if_pos hv', by simp [World.setCell]; exact (HVB.out i hv').2⟩
      · have hn' : (if (Value.slice (some ⟨g5, 0, none⟩) (s.length + 1) cp5).ownBlock = some i then some (6, 0, 0) else ρ i) ≠ none := hn
        rw [if_neg hv'] at hn'
        have := HL.out i hn'
        omega

theorem rootsClo (rb : Nat) : Clo 124 (.pointer (some ⟨rb, 0, none⟩)) (RootsAt rb) (fun p => p) := by
  refine ⟨fun w ρ s p h hl hs hp => roots1_any rb w ρ s p h hl hs, fun w ρ s w' ρ' h hb hsz hr => ?_, fun p hp => hp, fun args w => by go_simp⟩
  obtain ⟨v, h1, h2, h3, h4⟩ := h
  exact ⟨v, (hb rb h2).trans h1, hr rb h2, ownsRow_kept h3 (fun g hg => hb g (h4 g hg)), fun g hg => hr g (h4 g hg)⟩

theorem mvF_id (v : Val) : mvF (fun p => p) v = v := by
  unfold mvF
  split
  · rename_i h
    obtain ⟨a, b⟩ := v
    dsimp only at h
    rw [h]
  · rfl
theorem FTx.same {x x' : Tx} (h : FTx (fun p => p) x x') : x' = x := by
  obtain ⟨a, b, c, d⟩ := x
  obtain ⟨a', b', c', d'⟩ := x'
  obtain ⟨h1, h2, h3, h4⟩ := h
  dsimp only at h1 h2 h3 h4
  have e2 : b' = b := funext fun r => (h2 r).trans (mvF_id _)
  have e3 : c' = c := by
    funext q
    apply Option.ext
    intro v
    rw [h3]
    exact ⟨fun ⟨p, hp, e⟩ => e ▸ hp, fun hp => ⟨q, hp, rfl⟩⟩
  have e4 : d' = d := by
    funext q
    apply Option.ext
    intro v
    rw [h4]
    have hm : ∀ o : Orig, (⟨o.ver, o.fields.map (mvF (fun p => p))⟩ : Orig) = o := fun o => by
      have : o.fields.map (mvF (fun p => p)) = o.fields := by
        rw [show mvF (fun p => p) = id from funext mvF_id]
        simp
      rw [this]
    exact ⟨fun ⟨p, o, hp, e, ho⟩ => by rw [hm] at ho; subst ho; exact e ▸ hp, fun hp => ⟨q, v, hp, rfl, hm v⟩⟩
  rw [h1, e2, e3, e4]

theorem heldBy_iff (c : Mc) (q : Int) : (∃ t, t < 4 ∧ HeldBy c t q) ↔ IsRoot c q := by
  unfold IsRoot HeldVal HeldKey HeldBy
  constructor
  · rintro ⟨t, ht, (⟨r, hr, h⟩ | ⟨r, hr, h⟩ | h | h | ⟨p, o, hp, ho⟩)⟩
    · exact .inl (.inl ⟨t, r, ht, hr, h⟩)
    · exact .inl (.inr (.inl ⟨t, r, ht, hr, h⟩))
    · exact .inr ⟨t, ht, .inl (Option.ne_none_iff_exists'.1 h)⟩
    · exact .inr ⟨t, ht, .inr (Option.ne_none_iff_exists'.1 h)⟩
    · exact .inl (.inr (.inr ⟨t, p, o, ht, hp, ho⟩))
  · rintro ((⟨t, r, ht, hr, h⟩ | ⟨t, r, ht, hr, h⟩ | ⟨t, p, o, ht, hp, ho⟩) | ⟨t, ht, (⟨v, h⟩ | ⟨v, h⟩)⟩)
    · exact ⟨t, ht, .inl ⟨r, hr, h⟩⟩
    · exact ⟨t, ht, .inr (.inl ⟨r, hr, h⟩)⟩
    · exact ⟨t, ht, .inr (.inr (.inr (.inr ⟨p, o, hp, ho⟩)))⟩
    · exact ⟨t, ht, .inr (.inr (.inl (by rw [h]; simp)))⟩
    · exact ⟨t, ht, .inr (.inr (.inr (.inl (by rw [h]; simp))))⟩

theorem ValIn.fits {c : Mc} {l : List Nat} {k : Nat} (h : Inv c l k) {v : Val} (hv : ValIn (keepL c l) v) : Fits v.n := by
  rcases hv with ⟨_, h2, h3⟩ | ⟨_, h2⟩
  · exact ⟨by omega, by omega⟩
  · obtain ⟨p, e, hp⟩ := nums_mem (h.sub h2)
    have := h.place hp
    have := h.valid.len2
    exact fits_small (by omega) (by omega)
/-- What a visit asks of the machine. -/
theorem Inv.vis {c : Mc} {l : List Nat} {k : Nat} (h : Inv c l k) {f : Int → Int} (hf : ∀ p q, p ∈ keepL c l → q ∈ keepL c l → f p = f q → p = q) : VisOk c f := by
  refine ⟨fun t p q hp hq => ?_, fun t p q hp hq => ?_, fun t r => (h.regs t r).fits h, fun t r => (h.saved t r).fits h, fun t p o ho => ⟨?_, fun v hv => (h.fields t p o ho v hv).fits h⟩⟩
  · obtain ⟨v, hv⟩ := Option.ne_none_iff_exists'.1 hp
    obtain ⟨u, hu⟩ := Option.ne_none_iff_exists'.1 hq
    exact hf p q (h.recd t p v hv).1 (h.recd t q u hu).1
  · obtain ⟨v, hv⟩ := Option.ne_none_iff_exists'.1 hp
    obtain ⟨u, hu⟩ := Option.ne_none_iff_exists'.1 hq
    exact hf p q (h.own t p v hv).1 (h.own t q u hu).1
  · obtain ⟨h1, _, h3, _⟩ := h.own t p o ho
    obtain ⟨q, rfl, hq⟩ := nums_mem (h.sub h1)
    have := h.place hq
    rw [Int.toNat_natCast] at h3
    omega

/-- What roots leaves. -/
def RootsPost (w : World) (B mb k : Nat) (ρ : Roles) (c : Mc) (m : Mem) (e : Ending) (w' : World) : Prop :=
  ∃ (a : Option Addr) (cp : Nat) (rs : List Int) (m' : Mem) (ρ' : Roles), e = .returned (.slice a rs.length cp) ∧ Own w' w.heap.size (.slice a rs.length cp) rs ∧ (∀ q, q ∈ rs ↔ IsRoot c q) ∧ rs.length ≤ 36000 ∧ Mach w' B mb k ρ' c m' ∧ MovedW ρ w ρ' w' ∧ m'.wa = m.wa ∧ m'.wcap = m.wcap

set_option maxHeartbeats 800000 in
theorem roots_any (B mb k : Nat) (ρ : Roles) (c : Mc) (m : Mem) (w : World) (h : Mach w B mb k ρ c m) (hB : B ≤ w.heap.size) (hk : k ≤ 1000) (hv : VisOk c (fun p => p)) :
    Calls Try.prog 115 #[.pointer (some ⟨mb, 0, none⟩)] w (RootsPost w B mb k ρ c m) := by
  have hmf : ∀ (fn : Fn) (first cap : Array Value) (w : World), (Instr.makeFunc fn first cap).run Try.prog w = .ok (.func fn first cap) w := fun _ _ _ _ => rfl
  have hnew : (w.alloc (.cells #[.slice none 0 0] 25)).heap[w.heap.size]? = some (.cells #[.slice none 0 0] 25 (0, 0)) := (MapKept.heap_alloc w _).1
  have hlow : ∀ i, ρ i ≠ none → i < w.heap.size := fun i hi => (h.low i hi).2
  have hX : Below w.heap.size w (w.alloc (.cells #[.slice none 0 0] 25)) := (by repeat (first | exact Below.refl _ _ | assumption | refine Below.drew ?_ | refine below_drewN ?_ _ | refine Below.allocs ?_ | refine Below.next ?_ (by assumption) | refine Below.setCell ?_ (by dsimp only; omega) _))
  have hm1 : Mach (w.alloc (.cells #[.slice none 0 0] 25)) B mb k (fun i => if i = w.heap.size then some (6, 0, 0) else ρ i) c m := (h.next hX).roles (fun i hi => by rw [if_neg (by have := hlow i hi; omega)]) (fun i hi => by
    by_cases e : i = w.heap.size
    · subst e; exact ⟨hB, by simp⟩
    · have hi' : (if i = w.heap.size then some (6, 0, 0) else ρ i) ≠ none := hi
      rw [if_neg e] at hi'
      have := h.low i hi'
      simp
      omega)
  have hI : RootsAt w.heap.size (w.alloc (.cells #[.slice none 0 0] 25)) (fun i => if i = w.heap.size then some (6, 0, 0) else ρ i) [] := ⟨_, hnew, by simp, World.ownsRow_nil _ _ _ _, fun g hg => by cases hg⟩
  have V := Lib.hide (machVisit_any (rootsClo w.heap.size) B mb k _ c m _ hm1 hI (by simp; omega) hk hv)
  have HX := Lib.hide hX
  have HLO := Lib.hide hlow
  clear h hv hnew hX hm1 hI hlow
  go_enter Try.func115, Try.ntmps115
  go_wp2_with (go_at_call 123; (with_reducible refine V.out.mono ?_); rintro e w2 ⟨rfl, ⟨⟨ρ2, m2, tx2, ks, hm2, hi2, hmv2, hdn, hrs, hme, hln, hwa, hwc⟩⟩⟩; obtain ⟨v, hv1, hv2, hv3, hv4⟩ := hi2; have c1 := cell_of_one hv1; have cl := lt_of_block hv1; have HM2 := Lib.hide hm2; have HMV := Lib.hide hmv2; have HDN := Lib.hide hdn; have HRS := Lib.hide hrs; have HME := Lib.hide hme; have HV3 := Lib.hide hv3; have HWA := Lib.hide hwa; have HWC := Lib.hide hwc; clear hwa hwc hv1 hv2 hv4 hm2 hmv2 hdn hrs hme hv3)
  go_ret
  have htx : tx2 = c.tx := by
    funext t
    rcases Nat.lt_or_ge t 4 with h4 | h4
    · exact (HDN.out t h4).same
    · exact HRS.out t h4
  have hrg : regsI (fun p => p) c 4 = c.regs := by
    funext t r
    unfold regsI
    split
    · exact mvF_id _
    · rfl
  have hm := HM2.out
  rw [htx, hrg] at hm
  have hv3 : Own w2 w.heap.size v ks := ownsRow_base HV3.out (Nat.le_succ _)
  have hform : ∃ a cp, v = .slice a ks.length cp := by
    rcases hv3.2 with ⟨e1, e2⟩ | ⟨g, cap, cur, e1, _⟩
    · exact ⟨none, 0, by rw [e1, e2]⟩
    · exact ⟨_, cap, e1⟩
  obtain ⟨a, cp, rfl⟩ := hform
  refine ⟨a, cp, ks, m2, ρ2, rfl, hv3, fun q => by rw [HME.out, heldBy_iff], by omega, hm, ?_, HWA.out, HWC.out⟩
  refine MovedW.trans (ρ2 := fun i => if i = w.heap.size then some (6, 0, 0) else ρ i) ((MovedW.below HX.out).roles (fun i hi hn => by
    show (if i = w.heap.size then some (6, 0, 0) else ρ i) = none
    rw [if_neg (by omega)]; exact hn)) HMV.out
end Go.Proofs.Ytpdcaoagpjcgbab

