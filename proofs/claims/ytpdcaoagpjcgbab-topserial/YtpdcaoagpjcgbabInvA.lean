/-
  Plain mathematics of the machine of threads: what holds between two acts is kept by each act. No program is named here. It proves no statement by itself.
-/
import Derived.Test.YtpdcaoagpjcgbabStmFinish
set_option linter.unusedVariables false
set_option linter.unusedSimpArgs false
namespace Go.Proofs.Ytpdcaoagpjcgbab
open Stm

theorem ValIn.mono {ks ks' : List Int} {v : Val} (h : ValIn ks v) (hs : ∀ x ∈ ks, x ∈ ks') : ValIn ks' v := h.imp id (fun ⟨a, b⟩ => ⟨a, hs _ b⟩)
theorem ValIn.zero (ks : List Int) : ValIn ks .zero := .inl ⟨rfl, by show (-1099511627776 : Int) ≤ 0; omega, by show (0 : Int) ≤ 1099511627776; omega⟩
theorem wordOf_valOf (y : Int) : Stm.wordOf (Stm.valOf y) = y := by
  rw [valOf_eq]
  unfold Stm.wordOf
  dsimp only
  rcases Int.emod_two_eq y with e | e
  · rw [if_pos e]; omega
  · rw [if_neg (by omega)]; omega
theorem keepL_congr {c c' : Mc} (h : c'.coll = c.coll) (l : List Nat) : keepL c' l = keepL c l := by unfold keepL; rw [h]

open Lw in
/-- Good values make good fields. -/
theorem ValIn.field {l : List Nat} {v : Val} (h : ValIn (nums l) v) : FieldOk l (Stm.wordOf v) := by
  unfold Stm.wordOf
  rcases h with ⟨h1, h2, h3⟩ | ⟨h1, h2⟩
  · rw [if_pos h1]
    exact ⟨fun h => by omega, fun _ => by omega⟩
  · rw [if_neg (by omega)]
    obtain ⟨p, e, hp⟩ := nums_mem h2
    exact ⟨fun _ => .inr ⟨p, hp, by omega⟩, fun h => by omega⟩

/-- What a field of a kept object holds. -/
theorem Inv.fieldVal {c : Mc} {l : List Nat} {k : Nat} (h : Inv c l k) {p : Nat} (hp : p ∈ l) (hk : (p : Int) ∈ keepL c l) {j : Nat} (hj : (j : Int) < c.xs.getD (p + 1) 0) : ValIn (keepL c l) (Stm.valOf (c.xs.getD (p + 2 + j) 0)) := by
  have hf := h.valid.fields p hp j hj
  rw [valOf_eq]
  rcases Int.emod_two_eq (c.xs.getD (p + 2 + j) 0) with e | e
  · have := hf.2 e
    exact .inl ⟨e, by dsimp only; omega, by dsimp only; omega⟩
  · rcases hf.1 e with h1 | ⟨q, hq, hqe⟩
    · exact absurd h1 (h.nonil p hp j hj)
    · refine .inr ⟨e, h.closed p hk _ ⟨j, hj, e, rfl, ?_⟩⟩
      have := h.place hq
      dsimp only
      omega

theorem getD_fits {xs : List Int} (h : ∀ x ∈ xs, Fits x) (j : Nat) : Fits (xs.getD j 0) := by
  rcases Nat.lt_or_ge j xs.length with h' | h'
  · exact h _ (mem_at.2 ⟨j, h', rfl⟩)
  · rw [List.getD_eq_getElem?_getD, List.getElem?_eq_none h']
    exact fits_small (by simp) (by simp)

open Lw in
/-- The machine behind a change of words that keeps the objects where they are. -/
theorem Inv.turn {c c' : Mc} {l : List Nat} {k k' : Nat} (h : Inv c l k) (hk4 : k' ≤ 400)
    (htop : c'.top = c.top) (hcoll : c'.coll = c.coll) (hlen : c'.xs.length = c.xs.length)
    (hlens : ∀ p ∈ l, c'.xs.getD (p + 1) 0 = c.xs.getD (p + 1) 0) (hrest : ∀ j, c.top.toNat ≤ j → c'.xs.getD j 0 = c.xs.getD j 0)
    (hfit : ∀ j, c'.xs.getD j 0 = c.xs.getD j 0 ∨ Fits (c'.xs.getD j 0))
    (hst : ∀ p ∈ l, 0 ≤ c'.xs.getD p 0 ∧ (c'.xs.getD p 0 % 2 = 1 → ∃ t o, t < 4 ∧ (c'.tx t).own p = some o) ∧ (c'.xs.getD p 0 % 2 = 0 → c'.xs.getD p 0 ≤ 2 * k'))
    (hfld : ∀ p ∈ l, ∀ j : Nat, (j : Int) < c.xs.getD (p + 1) 0 → c'.xs.getD (p + 2 + j) 0 = c.xs.getD (p + 2 + j) 0 ∨ ∃ v, ValIn (keepL c l) v ∧ c'.xs.getD (p + 2 + j) 0 = Stm.wordOf v)
    (hregs : ∀ t r, ValIn (keepL c l) (c'.regs t r)) (hsaved : ∀ t r, ValIn (keepL c l) ((c'.tx t).saved r)) (hfields : ∀ t p o, (c'.tx t).own p = some o → ∀ v ∈ o.fields, ValIn (keepL c l) v)
    (hrecd : ∀ t p v, (c'.tx t).recd p = some v → p ∈ keepL c l ∧ 0 ≤ v ∧ v ≤ k')
    (hown : ∀ t p o, (c'.tx t).own p = some o → t < 4 ∧ p ∈ keepL c l ∧ c'.xs.getD p.toNat 0 = 2 * (t : Int) + 1 ∧ (o.fields.length : Int) = c.xs.getD (p.toNat + 1) 0 ∧ 0 ≤ o.ver ∧ o.ver ≤ k')
    (hshut : ∀ t, (c'.tx t).isOpen = false → c'.tx t = .zero) (hhigh : ∀ t, 4 ≤ t → c'.tx t = .zero) (hout : ∀ t r, 4 ≤ t ∨ 4 ≤ r → c'.regs t r = .zero ∧ (c'.tx t).saved r = .zero) : Inv c' l k' := by
  have hke := keepL_congr hcoll l
  have hv := h.valid
  have hwf : ∀ p ∈ l, ∀ j : Nat, (j : Int) < c.xs.getD (p + 1) 0 → FieldOk l (c'.xs.getD (p + 2 + j) 0) ∧ c'.xs.getD (p + 2 + j) 0 ≠ 1 := fun p hp j hj => by
    rcases hfld p hp j hj with e | ⟨v, hv', e⟩
    · rw [e]; exact ⟨hv.fields p hp j hj, h.nonil p hp j hj⟩
    · rw [e]
      refine ⟨(hv'.mono (fun x hx => h.sub hx)).field, ?_⟩
      unfold Stm.wordOf
      rcases hv' with ⟨h1, _⟩ | ⟨h1, h2⟩
      · rw [if_pos h1]; omega
      · rw [if_neg (by omega)]
        obtain ⟨q, e, hq⟩ := nums_mem (h.sub h2)
        have := h.place hq
        omega
  have hso : ∀ p ∈ l, StOk c'.xs p := fun p hp => by
    obtain ⟨h0, h1, h2⟩ := hst p hp
    refine ⟨h0, ?_⟩
    rcases Int.emod_two_eq (c'.xs.getD p 0) with e | e
    · have := h2 e; omega
    · obtain ⟨t, o, ht, ho⟩ := h1 e
      have := (hown t p o ho).2.2.1
      rw [Int.toNat_natCast] at this
      omega
  have hvalid : Valid c'.xs c'.top l := by
    rw [htop]
    refine ⟨by rw [hlen]; exact hv.len1, by rw [hlen]; exact hv.len2, hv.top1, by rw [hlen]; exact hv.top2, ⟨objs_same (by have := hv.top1; omega) hv.objects.1 hlens, hso⟩, fun p hp j hj => ?_, fun j h1 h2 => ?_⟩
    · rw [hlens p hp] at hj
      exact (hwf p hp j hj).1
    · rw [hrest j h1]
      exact hv.rest j h1 (by rw [← hlen]; exact h2)
  refine ⟨hvalid, fun x hx => ?_, fun p hp j hj => ?_, by rw [hke]; exact hregs, by rw [hke]; exact hsaved, by rw [hke]; exact hfields, by rw [hke]; exact hrecd, fun t p o ho => ?_, fun p hp => (hst p hp).2, hshut, hhigh, hout, by rw [hcoll]; exact h.ret, by rw [hcoll, htop]; exact h.ctop, by rw [hcoll]; exact h.stopped, ?_⟩
  · obtain ⟨j, hj, rfl⟩ := mem_at.1 hx
    rcases hfit j with e | e
    · rw [e]; exact getD_fits h.fits j
    · exact e
  · rw [hlens p hp] at hj
    exact (hwf p hp j hj).2
  · obtain ⟨h1, h2, h3, h4, h5⟩ := hown t p o ho
    obtain ⟨q, rfl, hq⟩ := nums_mem (h.sub h2)
    rw [hke]
    refine ⟨h2, h3, ?_, h5⟩
    rw [Int.toNat_natCast] at h4 ⊢
    rw [hlens q hq]
    exact h4
  · rw [hke]
    intro p hp q hr
    have hpl := mem_nums.1 (h.sub hp)
    obtain ⟨j, hj, h1, h2, h3⟩ := hr
    rw [hlens p hpl] at hj
    rcases hfld p hpl j hj with e | ⟨v, hv', e⟩
    · rw [e] at h1 h2
      exact h.closed p hp q ⟨j, hj, h1, h2, h3⟩
    · rw [e] at h1 h2
      unfold Stm.wordOf at h1 h2
      rcases hv' with ⟨g1, _⟩ | ⟨g1, g2⟩
      · rw [if_pos g1] at h1; omega
      · rw [if_neg (by omega)] at h2
        have : q = v.n := by omega
        rw [this]
        exact g2

/-- Owned objects lie among the objects, each with its length. -/
theorem Inv.ownPlace {c : Mc} {l : List Nat} {k : Nat} (h : Inv c l k) {t p : Nat} {o : Orig} (ho : (c.tx t).own p = some o) : p ∈ l ∧ o.fields.length = lenAt c.xs p := by
  obtain ⟨h1, _, h3, _⟩ := h.own t p o ho
  have hp := mem_nums.1 (h.sub h1)
  rw [Int.toNat_natCast] at h3
  have := (h.place hp).2.2.2.1
  exact ⟨hp, by omega⟩
theorem Inv.ownNat {c : Mc} {l : List Nat} {k : Nat} (h : Inv c l k) {t : Nat} {p : Int} {o : Orig} (ho : (c.tx t).own p = some o) : ∃ q : Nat, p = q ∧ q ∈ l := nums_mem (h.sub (h.own t p o ho).1)
theorem Inv.open4 {c : Mc} {l : List Nat} {k : Nat} (h : Inv c l k) {t : Nat} (ho : (c.tx t).isOpen = true) : t < 4 := by
  rcases Nat.lt_or_ge t 4 with h' | h'
  · exact h'
  · rw [h.high t h'] at ho; cases ho
theorem Inv.own4 {c : Mc} {l : List Nat} {k : Nat} (h : Inv c l k) {t : Nat} {p : Int} {o : Orig} (ho : (c.tx t).own p = some o) : t < 4 := by
  rcases Nat.lt_or_ge t 4 with h' | h'
  · exact h'
  · rw [h.high t h'] at ho; cases ho

/-- A word of an object that is not owned by the thread is not touched when it is undone. -/
theorem Inv.apart {c : Mc} {l : List Nat} {k : Nat} (h : Inv c l k) {t q : Nat} (hq : q ∈ l) {p : Nat} {o : Orig} (ho : (c.tx t).own p = some o) : q + 1 ≠ p ∧ ¬ (p + 2 ≤ q + 1 ∧ q + 1 < p + 2 + o.fields.length) ∧ (p ≠ q → q ≠ p ∧ ¬ (p + 2 ≤ q ∧ q < p + 2 + o.fields.length) ∧ ∀ j, j < lenAt c.xs q → q + 2 + j ≠ p ∧ ¬ (p + 2 ≤ q + 2 + j ∧ q + 2 + j < p + 2 + o.fields.length)) := by
  obtain ⟨hp, hl⟩ := h.ownPlace ho
  have hgap := objs_gap h.valid.objects.1
  rw [hl]
  rcases Nat.lt_trichotomy p q with h' | h' | h'
  · have := hgap p hp q hq h'
    exact ⟨by omega, by omega, fun _ => ⟨by omega, by omega, fun j hj => ⟨by omega, by omega⟩⟩⟩
  · subst h'
    exact ⟨by omega, by omega, fun hn => absurd rfl hn⟩
  · have := hgap q hq p hp h'
    exact ⟨by omega, by omega, fun _ => ⟨by omega, by omega, fun j hj => ⟨by omega, by omega⟩⟩⟩

/-- The words behind an undoing, object by object. -/
theorem Inv.undone {c : Mc} {l : List Nat} {k : Nat} (h : Inv c l k) {t : Nat} {ys : List Int} (hu : Undone c.xs (c.tx t).own ys) {q : Nat} (hq : q ∈ l) :
    ys.getD (q + 1) 0 = c.xs.getD (q + 1) 0 ∧ (∀ o, (c.tx t).own q = some o → ys.getD q 0 = 2 * o.ver ∧ ∀ j, j < lenAt c.xs q → ys.getD (q + 2 + j) 0 = Stm.wordOf (o.fields.getD j .zero)) ∧
    ((c.tx t).own q = none → ys.getD q 0 = c.xs.getD q 0 ∧ ∀ j, j < lenAt c.xs q → ys.getD (q + 2 + j) 0 = c.xs.getD (q + 2 + j) 0) := by
  refine ⟨hu.rest _ (fun p o ho => ⟨(h.apart hq ho).1, (h.apart hq ho).2.1⟩), fun o ho => ⟨hu.head q o ho, fun j hj => hu.field q o ho j (by rw [(h.ownPlace ho).2]; exact hj)⟩, fun hn => ⟨hu.rest _ (fun p o ho => ?_), fun j hj => hu.rest _ (fun p o ho => ?_)⟩⟩
  · have hne : p ≠ q := fun e => by subst e; rw [hn] at ho; cases ho
    have := (h.apart hq ho).2.2 hne
    exact ⟨this.1, this.2.1⟩
  · have hne : p ≠ q := fun e => by subst e; rw [hn] at ho; cases ho
    exact ((h.apart hq ho).2.2 hne).2.2 j hj

theorem upd_tx_zero_own {c : Mc} {t u : Nat} {p : Int} {o : Orig} (h : (upd c.tx t Tx.zero u).own p = some o) : u ≠ t ∧ (c.tx u).own p = some o := by
  by_cases e : u = t
  · subst e; rw [upd_same] at h; cases h
  · rw [upd_other _ _ e] at h; exact ⟨e, h⟩
theorem upd_tx_zero_recd {c : Mc} {t u : Nat} {p v : Int} (h : (upd c.tx t Tx.zero u).recd p = some v) : u ≠ t ∧ (c.tx u).recd p = some v := by
  by_cases e : u = t
  · subst e; rw [upd_same] at h; cases h
  · rw [upd_other _ _ e] at h; exact ⟨e, h⟩

/-- Nobody else owns what a thread owns. -/
theorem Inv.excl {c : Mc} {l : List Nat} {k : Nat} (h : Inv c l k) {t u : Nat} {p : Int} {o o' : Orig} (h1 : (c.tx t).own p = some o) (h2 : (c.tx u).own p = some o') : t = u := by
  have e1 := (h.own t p o h1).2.1
  have e2 := (h.own u p o' h2).2.1
  omega

theorem Inv.undo {c c' : Mc} {l : List Nat} {k : Nat} (h : Inv c l k) (hk : k ≤ 400) {t : Nat} (hu : CUndo c t c') : Inv c' l k := by
  obtain ⟨ys, hy, rfl⟩ := hu
  refine h.turn hk rfl rfl hy.len (fun p hp => (h.undone hy hp).1) (fun j hj => ?_) (fun j => ?_) (fun p hp => ?_) (fun p hp j hj => ?_) (fun u r => ?_) (fun u r => ?_) (fun u p o ho => ?_) (fun u p v hv => ?_) (fun u p o ho => ?_) (fun u hu => ?_) (fun u hu => ?_) (fun u r hur => ?_)
  · refine hy.rest j (fun p o ho => ?_)
    obtain ⟨hp, hl⟩ := h.ownPlace ho
    have := h.place hp
    exact ⟨by omega, by omega⟩
  · by_cases hj : ∀ (p : Nat) (o : Orig), (c.tx t).own p = some o → j ≠ p ∧ ¬ (p + 2 ≤ j ∧ j < p + 2 + o.fields.length)
    · exact .inl (hy.rest j hj)
    · refine .inr ?_
      obtain ⟨p, hp⟩ := Classical.not_forall.1 hj
      obtain ⟨o, ho⟩ := Classical.not_forall.1 hp
      obtain ⟨h1, h2⟩ := Classical.not_imp.1 ho
      obtain ⟨g1, g2, g3, g4, g5⟩ := h.own t p o h1
      by_cases e : j = p
      · subst e
        dsimp only
        rw [hy.head j o h1]
        exact fits_small (by omega) (by omega)
      · have h3 : p + 2 ≤ j ∧ j < p + 2 + o.fields.length := Classical.byContradiction fun hn => h2 ⟨e, hn⟩
        obtain ⟨d, rfl⟩ : ∃ d, j = p + 2 + d := ⟨j - (p + 2), by omega⟩
        dsimp only
        rw [hy.field p o h1 d (by omega)]
        have hin := (h.fields t p o h1 (o.fields.getD d .zero) (by rw [val_getD (by omega)]; exact List.getElem_mem _))
        have hsm : -1099511627776 ≤ (o.fields.getD d .zero).n ∧ (o.fields.getD d .zero).n ≤ 1099511627776 := by
          rcases hin with ⟨_, q1, q2⟩ | ⟨_, q1⟩
          · exact ⟨q1, q2⟩
          · obtain ⟨q, e, hq⟩ := nums_mem (h.sub q1)
            have := h.place hq
            have := h.valid.len2
            omega
        unfold Stm.wordOf
        split
        · exact ⟨by omega, by omega⟩
        · exact ⟨by omega, by omega⟩
  · obtain ⟨_, h2, h3⟩ := h.undone hy hp
    dsimp only
    cases ho : (c.tx t).own p with
    | some o =>
      obtain ⟨_, _, _, g4, g5⟩ := h.own t p o ho
      rw [(h2 o ho).1]
      exact ⟨by omega, fun e => by omega, fun _ => by omega⟩
    | none =>
      rw [(h3 ho).1]
      refine ⟨(h.valid.objects.2 p hp).1, fun e => ?_, (h.state p hp).2⟩
      obtain ⟨u, o, hu, hou⟩ := (h.state p hp).1 e
      have hne : u ≠ t := fun e => by subst e; rw [ho] at hou; cases hou
      exact ⟨u, o, hu, by rw [upd_other _ _ hne]; exact hou⟩
  · obtain ⟨_, h2, h3⟩ := h.undone hy hp
    have hjl : j < lenAt c.xs p := by have := (h.place hp).2.2.2.1; omega
    dsimp only
    cases ho : (c.tx t).own p with
    | some o =>
      refine .inr ⟨o.fields.getD j .zero, h.fields t p o ho _ ?_, (h2 o ho).2 j hjl⟩
      rw [val_getD (by rw [(h.ownPlace ho).2]; exact hjl)]
      exact List.getElem_mem _
    | none => exact .inl ((h3 ho).2 j hjl)
  · dsimp only
    by_cases e : u = t
    · subst e; rw [upd_same]; exact h.saved u r
    · rw [upd_other _ _ e]; exact h.regs u r
  · dsimp only
    by_cases e : u = t
    · subst e; rw [upd_same]; exact ValIn.zero _
    · rw [upd_other _ _ e]; exact h.saved u r
  · exact h.fields u p o (upd_tx_zero_own ho).2
  · exact h.recd u p v (upd_tx_zero_recd hv).2
  · obtain ⟨hne, ho'⟩ := upd_tx_zero_own ho
    obtain ⟨g1, g2, g3, g4⟩ := h.own u p o ho'
    obtain ⟨q, rfl, hq⟩ := nums_mem (h.sub g1)
    refine ⟨h.own4 ho', g1, ?_, g3, g4⟩
    have hn : (c.tx t).own (q : Int) = none := by
      cases hx : (c.tx t).own (q : Int) with
      | none => rfl
      | some o2 => exact absurd (h.excl ho' hx) hne
    dsimp only
    rw [Int.toNat_natCast] at g2 ⊢
    rw [((h.undone hy hq).2.2 hn).1]
    exact g2
  · dsimp only at hu ⊢
    by_cases e : u = t
    · subst e; rw [upd_same]
    · rw [upd_other _ _ e] at hu ⊢; exact h.shut u hu
  · dsimp only
    by_cases e : u = t
    · subst e; rw [upd_same]
    · rw [upd_other _ _ e]; exact h.high u hu
  · dsimp only
    by_cases e : u = t
    · subst e; rw [upd_same, upd_same]; exact ⟨(h.out u r hur).2, rfl⟩
    · rw [upd_other _ _ e, upd_other _ _ e]; exact h.out u r hur

theorem Inv.mono {c : Mc} {l : List Nat} {k k' : Nat} (h : Inv c l k) (hk : k ≤ k') : Inv c l k' :=
  { h with recd := fun t p v hv => ⟨(h.recd t p v hv).1, (h.recd t p v hv).2.1, by have := (h.recd t p v hv).2.2; omega⟩, own := fun t p o ho => (let g := h.own t p o ho; ⟨g.1, g.2.1, g.2.2.1, g.2.2.2.1, by have := g.2.2.2.2; omega⟩), state := fun p hp => ⟨(h.state p hp).1, fun e => by have := (h.state p hp).2 e; omega⟩ }

theorem Inv.commit {c : Mc} {l : List Nat} {k : Nat} (h : Inv c l k) (hk : k < 400) {t : Nat} {ys : List Int} (hy : Committed c.xs (c.tx t).own ys) : Inv ⟨ys, c.top, c.regs, upd c.tx t .zero, c.coll⟩ l (k + 1) := by
  have hgap := objs_gap h.valid.objects.1
  have hnone : ∀ j : Nat, j ∉ l → (c.tx t).own j = none := fun j hj => by
    cases hx : (c.tx t).own (j : Int) with
    | none => rfl
    | some o => exact absurd (h.ownPlace hx).1 hj
  have hn1 : ∀ p ∈ l, p + 1 ∉ l := fun p hp hq => by have := hgap p hp (p + 1) hq (by omega); omega
  refine h.turn (by omega) rfl rfl hy.len (fun p hp => hy.rest _ (hnone _ (hn1 p hp))) (fun j hj => hy.rest j (hnone j (fun hjl => by have := h.place hjl; omega))) (fun j => ?_) (fun p hp => ?_) (fun p hp j hj => ?_) (fun u r => h.regs u r) (fun u r => ?_) (fun u p o ho => ?_) (fun u p v hv => ?_) (fun u p o ho => ?_) (fun u hu => ?_) (fun u hu => ?_) (fun u r hur => ?_)
  · cases hx : (c.tx t).own (j : Int) with
    | none => exact .inl (hy.rest j hx)
    | some o =>
      obtain ⟨_, _, _, g4, g5⟩ := h.own t j o hx
      refine .inr ?_
      dsimp only
      rw [hy.head j o hx]
      exact fits_small (by omega) (by omega)
  · dsimp only
    cases ho : (c.tx t).own (p : Int) with
    | some o =>
      obtain ⟨_, _, _, g4, g5⟩ := h.own t p o ho
      rw [hy.head p o ho]
      exact ⟨by omega, fun e => by omega, fun _ => by omega⟩
    | none =>
      rw [hy.rest p ho]
      refine ⟨(h.valid.objects.2 p hp).1, fun e => ?_, fun e => by have := (h.state p hp).2 e; omega⟩
      obtain ⟨u, o, hu, hou⟩ := (h.state p hp).1 e
      have hne : u ≠ t := fun e => by subst e; rw [ho] at hou; cases hou
      exact ⟨u, o, hu, by rw [upd_other _ _ hne]; exact hou⟩
  · refine .inl (hy.rest _ (hnone _ (fun hq => ?_)))
    have := Lw.field_apart h.valid.objects.1 hp hq hj
    exact this.1 rfl
  · dsimp only
    by_cases e : u = t
    · subst e; rw [upd_same]; exact ValIn.zero _
    · rw [upd_other _ _ e]; exact h.saved u r
  · exact h.fields u p o (upd_tx_zero_own ho).2
  · have := h.recd u p v (upd_tx_zero_recd hv).2
    exact ⟨this.1, this.2.1, by omega⟩
  · obtain ⟨hne, ho'⟩ := upd_tx_zero_own ho
    obtain ⟨g1, g2, g3, g4, g5⟩ := h.own u p o ho'
    obtain ⟨q, rfl, hq⟩ := nums_mem (h.sub g1)
    refine ⟨h.own4 ho', g1, ?_, g3, g4, by omega⟩
    have hn : (c.tx t).own (q : Int) = none := by
      cases hx : (c.tx t).own (q : Int) with
      | none => rfl
      | some o2 => exact absurd (h.excl ho' hx) hne
    dsimp only
    rw [Int.toNat_natCast] at g2 ⊢
    rw [hy.rest q hn]
    exact g2
  · dsimp only at hu ⊢
    by_cases e : u = t
    · subst e; rw [upd_same]
    · rw [upd_other _ _ e] at hu ⊢; exact h.shut u hu
  · dsimp only
    by_cases e : u = t
    · subst e; rw [upd_same]
    · rw [upd_other _ _ e]; exact h.high u hu
  · dsimp only
    by_cases e : u = t
    · subst e; rw [upd_same]; exact ⟨(h.out u r hur).1, rfl⟩
    · rw [upd_other _ _ e]; exact h.out u r hur

/-- Only registers turn. -/
theorem Inv.setReg {c : Mc} {l : List Nat} {k : Nat} (h : Inv c l k) {t A : Nat} (ht : t < 4) (hA : A < 4) {v : Val} (hv : ValIn (keepL c l) v) : Inv ⟨c.xs, c.top, upd c.regs t (upd (c.regs t) A v), c.tx, c.coll⟩ l k :=
  { h with
    regs := fun u r => by
      show ValIn (keepL c l) (upd c.regs t (upd (c.regs t) A v) u r)
      by_cases e : u = t
      · subst e
        rw [upd_same]
        by_cases e2 : r = A
        · subst e2; rw [upd_same]; exact hv
        · rw [upd_other _ _ e2]; exact h.regs u r
      · rw [upd_other _ _ e]; exact h.regs u r
    out := fun u r hur => by
      refine ⟨?_, (h.out u r hur).2⟩
      show upd c.regs t (upd (c.regs t) A v) u r = .zero
      by_cases e : u = t
      · subst e
        rw [upd_same, upd_other _ _ (by omega)]
        exact (h.out u r hur).1
      · rw [upd_other _ _ e]; exact (h.out u r hur).1 }

theorem Inv.begin {c : Mc} {l : List Nat} {k : Nat} (h : Inv c l k) {t : Nat} (ht : t < 4) (ho : (c.tx t).isOpen = false) : Inv ⟨c.xs, c.top, c.regs, upd c.tx t ⟨true, c.regs t, fun _ => none, fun _ => none⟩, c.coll⟩ l k := by
  have hz := h.shut t ho
  have hown : ∀ u p o, (upd c.tx t ⟨true, c.regs t, fun _ => none, fun _ => none⟩ u).own p = some o → (c.tx u).own p = some o := fun u p o hh => by
    by_cases e : u = t
    · subst e; rw [upd_same] at hh; cases hh
    · rwa [upd_other _ _ e] at hh
  have hrec : ∀ u p o, (upd c.tx t ⟨true, c.regs t, fun _ => none, fun _ => none⟩ u).recd p = some o → (c.tx u).recd p = some o := fun u p o hh => by
    by_cases e : u = t
    · subst e; rw [upd_same] at hh; cases hh
    · rwa [upd_other _ _ e] at hh
  exact { h with
    saved := fun u r => by
      show ValIn (keepL c l) ((upd c.tx t _ u).saved r)
      by_cases e : u = t
      · subst e; rw [upd_same]; exact h.regs u r
      · rw [upd_other _ _ e]; exact h.saved u r
    fields := fun u p o hh => h.fields u p o (hown u p o hh)
    recd := fun u p v hh => h.recd u p v (hrec u p v hh)
    own := fun u p o hh => h.own u p o (hown u p o hh)
    state := fun p hp => ⟨fun e => by
      obtain ⟨u, o, hu, hou⟩ := (h.state p hp).1 e
      have hne : u ≠ t := fun e => by subst e; rw [hz] at hou; cases hou
      exact ⟨u, o, hu, by show (upd c.tx t _ u).own p = _; rw [upd_other _ _ hne]; exact hou⟩, (h.state p hp).2⟩
    shut := fun u hu => by
      have hu' : (upd c.tx t ⟨true, c.regs t, fun _ => none, fun _ => none⟩ u).isOpen = false := hu
      show upd c.tx t _ u = _
      by_cases e : u = t
      · subst e; rw [upd_same] at hu'; cases hu'
      · rw [upd_other _ _ e] at hu' ⊢; exact h.shut u hu'
    high := fun u hu => by
      show upd c.tx t _ u = _
      rw [upd_other _ _ (by omega)]; exact h.high u hu
    out := fun u r hur => by
      refine ⟨(h.out u r hur).1, ?_⟩
      show (upd c.tx t _ u).saved r = _
      by_cases e : u = t
      · subst e; rw [upd_same]; exact (h.out u r hur).1
      · rw [upd_other _ _ e]; exact (h.out u r hur).2 }
end Go.Proofs.Ytpdcaoagpjcgbab

/-
  Plain mathematics of the machine of threads: what holds between two acts is kept by each act, the rest of them. No program is named here. It proves no statement by itself.
-/
namespace Go.Proofs.Ytpdcaoagpjcgbab
open Stm

/-- An object that no other thread owns, and the thread itself does not: its state is its version. -/
theorem Inv.free {c : Mc} {l : List Nat} {k : Nat} (h : Inv c l k) {t p : Nat} (hp : p ∈ l) (hn : ¬ Owned c.xs t p) (ho : (c.tx t).own p = none) : c.xs.getD p 0 % 2 = 0 ∧ 0 ≤ c.xs.getD p 0 ∧ c.xs.getD p 0 ≤ 2 * k := by
  have he : c.xs.getD p 0 % 2 = 0 := by
    rcases Int.emod_two_eq (c.xs.getD p 0) with e | e
    · exact e
    · exfalso
      obtain ⟨u, o, _, hu⟩ := (h.state p hp).1 e
      have h1 := (h.own u p o hu).2.1
      rw [Int.toNat_natCast] at h1
      by_cases hut : u = t
      · subst hut; rw [ho] at hu; cases hu
      · refine hn ⟨by rw [Int.toNat_natCast]; exact e, ?_⟩
        rw [Int.toNat_natCast, h1]
        omega
  exact ⟨he, (h.valid.objects.2 p hp).1, (h.state p hp).2 he⟩
theorem Inv.verOf {c : Mc} {l : List Nat} {k : Nat} (h : Inv c l k) {t p : Nat} (hp : p ∈ l) (hn : ¬ Owned c.xs t p) : 0 ≤ verOf c t p ∧ verOf c t p ≤ k := by
  unfold Stm.verOf
  cases ho : (c.tx t).own (p : Int) with
  | some o => exact (h.own t p o ho).2.2.2
  | none =>
    have := h.free hp hn ho
    dsimp only
    rw [Int.toNat_natCast]
    omega

theorem Inv.setTx {c : Mc} {l : List Nat} {k : Nat} (h : Inv c l k) {t : Nat} (ht : t < 4) (hop : (c.tx t).isOpen = true) {rc : Int → Option Int} (hr : ∀ p v, rc p = some v → p ∈ keepL c l ∧ 0 ≤ v ∧ v ≤ k) : Inv ⟨c.xs, c.top, c.regs, upd c.tx t ⟨(c.tx t).isOpen, (c.tx t).saved, rc, (c.tx t).own⟩, c.coll⟩ l k := by
  have hown : ∀ u, (upd c.tx t ⟨(c.tx t).isOpen, (c.tx t).saved, rc, (c.tx t).own⟩ u).own = (c.tx u).own ∧ (upd c.tx t ⟨(c.tx t).isOpen, (c.tx t).saved, rc, (c.tx t).own⟩ u).saved = (c.tx u).saved ∧ (upd c.tx t ⟨(c.tx t).isOpen, (c.tx t).saved, rc, (c.tx t).own⟩ u).isOpen = (c.tx u).isOpen := fun u => by
    by_cases e : u = t
    · subst e; rw [upd_same]; exact ⟨rfl, rfl, rfl⟩
    · rw [upd_other _ _ e]; exact ⟨rfl, rfl, rfl⟩
  exact { h with
    saved := fun u r => by show ValIn (keepL c l) ((upd c.tx t _ u).saved r); rw [(hown u).2.1]; exact h.saved u r
    fields := fun u p o hh => h.fields u p o (by rw [← (hown u).1]; exact hh)
    recd := fun u p v hh => by
      have hh' : (upd c.tx t ⟨(c.tx t).isOpen, (c.tx t).saved, rc, (c.tx t).own⟩ u).recd p = some v := hh
      by_cases e : u = t
      · subst e; rw [upd_same] at hh'; exact hr p v hh'
      · rw [upd_other _ _ e] at hh'; exact h.recd u p v hh'
    own := fun u p o hh => h.own u p o (by rw [← (hown u).1]; exact hh)
    state := fun p hp => ⟨fun e => by
      obtain ⟨u, o, hu, hou⟩ := (h.state p hp).1 e
      exact ⟨u, o, hu, by show (upd c.tx t _ u).own p = _; rw [(hown u).1]; exact hou⟩, (h.state p hp).2⟩
    shut := fun u hu => by
      have hu' : (upd c.tx t ⟨(c.tx t).isOpen, (c.tx t).saved, rc, (c.tx t).own⟩ u).isOpen = false := hu
      show upd c.tx t _ u = _
      by_cases e : u = t
      · subst e; rw [upd_same] at hu'; dsimp only at hu'; rw [hop] at hu'; cases hu'
      · rw [upd_other _ _ e] at hu' ⊢; exact h.shut u hu'
    high := fun u hu => by
      show upd c.tx t _ u = _
      rw [upd_other _ _ (by omega)]; exact h.high u hu
    out := fun u r hur => ⟨(h.out u r hur).1, by show (upd c.tx t _ u).saved r = _; rw [(hown u).2.1]; exact (h.out u r hur).2⟩ }

theorem Inv.get {c : Mc} {l : List Nat} {k : Nat} (h : Inv c l k) {t A p n : Nat} (ht : t < 4) (hA : A < 4) (hop : (c.tx t).isOpen = true) (hp : p ∈ l) (hk : (p : Int) ∈ keepL c l) (hn : (n : Int) < c.xs.getD (p + 1) 0) (hno : ¬ Owned c.xs t p) : Inv (getMc c t A p n) l k := by
  have h1 := h.setReg ht hA (h.fieldVal hp hk hn)
  unfold getMc recTx
  rw [Int.toNat_natCast]
  split
  · refine Inv.setTx (c := ⟨c.xs, c.top, upd c.regs t (upd (c.regs t) A (Stm.valOf (c.xs.getD (p + 2 + n) 0))), c.tx, c.coll⟩) h1 ht hop (fun q v hq => ?_)
    by_cases e : q = p
    · subst e
      rw [setAt_same] at hq
      injection hq with hq
      subst hq
      exact ⟨hk, h.verOf hp hno⟩
    · rw [setAt_other _ _ e] at hq
      exact h.recd t q v hq
  · rw [upd_id]
    exact h1

theorem valsAt_length {c : Mc} {l : List Nat} {k : Nat} (h : Inv c l k) {p : Nat} (hp : p ∈ l) : (valsAt c.xs p).length = lenAt c.xs p := by
  unfold valsAt
  rw [List.length_map, fieldsAt_length (h.place hp).2.1]
theorem mem_valsAt {c : Mc} {l : List Nat} {k : Nat} (h : Inv c l k) {p : Nat} (hp : p ∈ l) {v : Val} (hv : v ∈ valsAt c.xs p) : ∃ j, j < lenAt c.xs p ∧ v = Stm.valOf (c.xs.getD (p + 2 + j) 0) := by
  unfold valsAt at hv
  obtain ⟨y, hy, rfl⟩ := List.mem_map.1 hv
  obtain ⟨j, hj, rfl⟩ := mem_at.1 hy
  rw [fieldsAt_length (h.place hp).2.1] at hj
  exact ⟨j, hj, by rw [fieldsAt_getD hj]⟩

/-- A thread becomes the owner of an object. -/
theorem Inv.ownMc {c : Mc} {l : List Nat} {k : Nat} (h : Inv c l k) (hk4 : k ≤ 400) {t p : Nat} (ht : t < 4) (hop : (c.tx t).isOpen = true) (hp : p ∈ l) (hk : (p : Int) ∈ keepL c l) (hno : ¬ Owned c.xs t p) : Inv (Stm.ownMc c t p) l k := by
  unfold Stm.ownMc ownXs ownTx
  cases ho : (c.tx t).own (p : Int) with
  | some o =>
    rw [if_neg (by simp), if_neg (by simp), upd_id]
    exact h
  | none =>
    rw [if_pos rfl, if_pos rfl, Int.toNat_natCast]
    have hpl := h.place hp
    have hgap := objs_gap h.valid.objects.1
    have hfree := h.free hp hno ho
    have hsame : ∀ j, j ≠ p → (c.xs.set p (2 * (t : Int) + 1)).getD j 0 = c.xs.getD j 0 := fun j hj => Lw.getD_set_ne (Ne.symm hj)
    have hat : (c.xs.set p (2 * (t : Int) + 1)).getD p 0 = 2 * (t : Int) + 1 := Lw.getD_set_eq (by omega)
    have hu : ∀ u q o, (upd c.tx t ⟨(c.tx t).isOpen, (c.tx t).saved, (c.tx t).recd, setAt (c.tx t).own p (some ⟨Stm.verOf c t p, valsAt c.xs p⟩)⟩ u).own q = some o → (u = t ∧ q = p ∧ o = ⟨Stm.verOf c t p, valsAt c.xs p⟩) ∨ (c.tx u).own q = some o := fun u q o hh => by
      by_cases e : u = t
      · subst e
        rw [upd_same] at hh
        dsimp only at hh
        by_cases e2 : q = p
        · subst e2
          rw [setAt_same] at hh
          injection hh with hh
          exact .inl ⟨rfl, rfl, hh.symm⟩
        · rw [setAt_other _ _ e2] at hh
          exact .inr hh
      · rw [upd_other _ _ e] at hh
        exact .inr hh
    have hrest : ∀ u, (upd c.tx t ⟨(c.tx t).isOpen, (c.tx t).saved, (c.tx t).recd, setAt (c.tx t).own p (some ⟨Stm.verOf c t p, valsAt c.xs p⟩)⟩ u).saved = (c.tx u).saved ∧ (upd c.tx t ⟨(c.tx t).isOpen, (c.tx t).saved, (c.tx t).recd, setAt (c.tx t).own p (some ⟨Stm.verOf c t p, valsAt c.xs p⟩)⟩ u).recd = (c.tx u).recd := fun u => by
      by_cases e : u = t
      · subst e; rw [upd_same]; exact ⟨rfl, rfl⟩
      · rw [upd_other _ _ e]; exact ⟨rfl, rfl⟩
    refine h.turn hk4 rfl rfl (by simp) (fun q hq => hsame _ (fun e => ?_)) (fun j hj => hsame j (by omega)) (fun j => ?_) (fun q hq => ?_) (fun q hq j hj => .inl (hsame _ (fun e => ?_))) h.regs (fun u r => by dsimp only; rw [(hrest u).1]; exact h.saved u r) (fun u q o hh v hv => ?_) (fun u q v hh => h.recd u q v (by dsimp only at hh; rw [(hrest u).2] at hh; exact hh)) (fun u q o hh => ?_) (fun u hh => ?_) (fun u hh => ?_) (fun u r hur => ⟨(h.out u r hur).1, by dsimp only; rw [(hrest u).1]; exact (h.out u r hur).2⟩)
    · have := hgap q hq p hp (by omega)
      omega
    · by_cases e : j = p
      · subst e; right; dsimp only; rw [hat]; exact fits_small (by omega) (by omega)
      · exact .inl (hsame j e)
    · dsimp only
      by_cases e : q = p
      · subst e
        rw [hat]
        refine ⟨by omega, fun _ => ⟨t, ⟨Stm.verOf c t q, valsAt c.xs q⟩, ht, by rw [upd_same]; exact setAt_same _ _ _⟩, fun e => by omega⟩
      · rw [hsame q e]
        refine ⟨(h.valid.objects.2 q hq).1, fun e3 => ?_, (h.state q hq).2⟩
        obtain ⟨u, o, hu4, hou⟩ := (h.state q hq).1 e3
        refine ⟨u, o, hu4, ?_⟩
        by_cases e4 : u = t
        · subst e4; rw [upd_same]; dsimp only; rw [setAt_other _ _ (by omega)]; exact hou
        · rw [upd_other _ _ e4]; exact hou
    · exact (Lw.field_apart h.valid.objects.1 hq hp hj).1 e
    · rcases hu u q o hh with ⟨rfl, rfl, rfl⟩ | hh'
      · obtain ⟨j, hj, rfl⟩ := mem_valsAt h hp hv
        exact h.fieldVal hp hk (by have := hpl.2.2.2.1; omega)
      · exact h.fields u q o hh' v hv
    · rcases hu u q o hh with ⟨rfl, rfl, rfl⟩ | hh'
      · refine ⟨ht, hk, by dsimp only; rw [Int.toNat_natCast]; exact hat, ?_, h.verOf hp hno⟩
        dsimp only
        rw [valsAt_length h hp, Int.toNat_natCast, hpl.2.2.2.1]
      · obtain ⟨g1, g2, g3⟩ := h.own u q o hh'
        refine ⟨h.own4 hh', g1, ?_, g3⟩
        obtain ⟨z, rfl, hz⟩ := nums_mem (h.sub g1)
        have hzp : z ≠ p := fun e => by
          subst e
          rw [Int.toNat_natCast] at g2
          omega
        dsimp only
        rw [Int.toNat_natCast] at g2 ⊢
        rw [hsame z hzp]
        exact g2
    · dsimp only at hh ⊢
      by_cases e : u = t
      · subst e; rw [upd_same] at hh; dsimp only at hh; rw [hop] at hh; cases hh
      · rw [upd_other _ _ e] at hh ⊢; exact h.shut u hh
    · dsimp only
      rw [upd_other _ _ (by omega)]
      exact h.high u hh

/-- A field of an object that the thread owns. -/
theorem Inv.storeField {c : Mc} {l : List Nat} {k : Nat} (h : Inv c l k) (hk4 : k ≤ 400) {p n : Nat} (hp : p ∈ l) (hn : (n : Int) < c.xs.getD (p + 1) 0) {v : Val} (hv : ValIn (keepL c l) v) : Inv ⟨c.xs.set (p + 2 + n) (Stm.wordOf v), c.top, c.regs, c.tx, c.coll⟩ l k := by
  have hpl := h.place hp
  have ho := h.valid.objects.1
  have hsame : ∀ j, j ≠ p + 2 + n → (c.xs.set (p + 2 + n) (Stm.wordOf v)).getD j 0 = c.xs.getD j 0 := fun j hj => Lw.getD_set_ne (Ne.symm hj)
  have hat : (c.xs.set (p + 2 + n) (Stm.wordOf v)).getD (p + 2 + n) 0 = Stm.wordOf v := Lw.getD_set_eq (by omega)
  have hst : ∀ q ∈ l, (c.xs.set (p + 2 + n) (Stm.wordOf v)).getD q 0 = c.xs.getD q 0 := fun q hq => hsame q (fun e => (Lw.field_apart ho hp hq hn).1 e.symm)
  refine h.turn hk4 rfl rfl (by simp) (fun q hq => hsame _ (fun e => (Lw.field_apart ho hp hq hn).2 e.symm)) (fun j hj => hsame j (by omega)) (fun j => ?_) (fun q hq => ?_) (fun q hq j hj => ?_) h.regs h.saved h.fields h.recd (fun u q o hh => ?_) h.shut h.high h.out
  · by_cases e : j = p + 2 + n
    · subst e
      right
      dsimp only
      rw [hat]
      have hs : -1099511627776 ≤ v.n ∧ v.n ≤ 1099511627776 := by
        rcases hv with ⟨_, q1, q2⟩ | ⟨_, q1⟩
        · exact ⟨q1, q2⟩
        · obtain ⟨q, e, hq⟩ := nums_mem (h.sub q1)
          have := h.place hq
          have := h.valid.len2
          omega
      unfold Stm.wordOf
      split
      · exact ⟨by omega, by omega⟩
      · exact ⟨by omega, by omega⟩
    · exact .inl (hsame j e)
  · dsimp only
    rw [hst q hq]
    exact ⟨(h.valid.objects.2 q hq).1, h.state q hq⟩
  · dsimp only
    by_cases e : q + 2 + j = p + 2 + n
    · rw [e, hat]
      exact .inr ⟨v, hv, rfl⟩
    · exact .inl (hsame _ e)
  · obtain ⟨g1, g2, g3⟩ := h.own u q o hh
    obtain ⟨z, rfl, hz⟩ := nums_mem (h.sub g1)
    refine ⟨h.own4 hh, g1, ?_, g3⟩
    dsimp only
    rw [Int.toNat_natCast] at g2 ⊢
    rw [hst z hz]
    exact g2

theorem Inv.put {c : Mc} {l : List Nat} {k : Nat} (h : Inv c l k) (hk4 : k ≤ 400) {t b p n : Nat} (ht : t < 4) (hop : (c.tx t).isOpen = true) (hp : p ∈ l) (hk : (p : Int) ∈ keepL c l) (hn : (n : Int) < c.xs.getD (p + 1) 0) (hno : ¬ Owned c.xs t p) : Inv (putMc c t b p n) l k := by
  have h1 := h.ownMc hk4 ht hop hp hk hno
  have h2 := h1.storeField hk4 (n := n) hp (by
    show (n : Int) < (ownXs c t p).getD (p + 1) 0
    rw [ownXs_len h hp hp]
    exact hn) (v := c.regs t b) (by rw [keepL_congr (c := c) (c' := Stm.ownMc c t p) rfl]; exact h.regs t b)
  unfold putMc
  rw [Int.toNat_natCast]
  exact h2

open Lw in
theorem Inv.new {c : Mc} {l : List Nat} {k : Nat} (h : Inv c l k) {t A T f : Nat} (ht : t < 4) (hA : A < 4) (hT : c.top = (T : Int)) (hf : f ≤ 6) (hfit : T + 2 + f ≤ c.xs.length) : Inv ⟨c.xs.set (T + 1) f, (T : Int) + (2 + f), upd c.regs t (upd (c.regs t) A ⟨1, T⟩), c.tx, c.coll⟩ (l ++ [T]) k := by
  have hv := h.valid
  rw [hT] at hv
  have hva := hv.alloc hf hfit
  have hlt : ∀ q ∈ l, q + 2 + lenAt c.xs q ≤ T := fun q hq => by have := (h.place hq).2.2.2.2; rw [hT] at this; simpa using this
  have hsame : ∀ j, j ≠ T + 1 → (c.xs.set (T + 1) (f : Int)).getD j 0 = c.xs.getD j 0 := fun j hj => Lw.getD_set_ne (Ne.symm hj)
  have hnew : (c.xs.set (T + 1) (f : Int)).getD (T + 1) 0 = f := Lw.getD_set_eq (by omega)
  have hrz : ∀ j, T ≤ j → j < c.xs.length → c.xs.getD j 0 = 0 := fun j h1 h2 => hv.rest j (by simpa using h1) h2
  have hke : keepL (⟨c.xs.set (T + 1) f, (T : Int) + (2 + f), upd c.regs t (upd (c.regs t) A ⟨1, T⟩), c.tx, c.coll⟩ : Mc) (l ++ [T]) = keepL c l ++ [(T : Int)] := by
    unfold keepL
    dsimp only
    rw [nums_append]
    split
    · rename_i hg
      have := h.ctop hg
      rw [List.filter_append]
      have e : (nums [T]).filter (fun q => decide (c.coll.top ≤ q)) = [(T : Int)] := by
        simp [nums]
        omega
      rw [e, List.append_assoc]
    · simp [nums]
  have hsub : ∀ x ∈ keepL c l, x ∈ keepL c l ++ [(T : Int)] := fun x hx => List.mem_append_left _ hx
  refine ⟨hva, fun x hx => ?_, fun p hp j hj => ?_, fun u r => ?_, fun u r => ?_, fun u p o hh v hv' => ?_, fun u p v hh => ?_, fun u p o hh => ?_, fun p hp => ?_, h.shut, h.high, fun u r hur => ⟨?_, (h.out u r hur).2⟩, fun hg => ?_, fun hg => ?_, h.stopped, ?_⟩
  · rcases List.mem_or_eq_of_mem_set hx with hx | rfl
    · exact h.fits x hx
    · exact fits_small (by omega) (by omega)
  · dsimp only at hj ⊢
    rcases List.mem_append.1 hp with hp | hp
    · have := hlt p hp
      rw [hsame _ (by omega)] at hj
      have hj' : j < lenAt c.xs p := by have := (h.place hp).2.2.2.1; omega
      rw [hsame _ (by omega)]
      exact h.nonil p hp j hj
    · simp at hp
      subst hp
      rw [hnew] at hj
      rw [hsame _ (by omega), hrz _ (by omega) (by omega)]
      omega
  · rw [hke]
    dsimp only
    by_cases e : u = t
    · subst e
      rw [upd_same]
      by_cases e2 : r = A
      · subst e2; rw [upd_same]; exact .inr ⟨rfl, by simp⟩
      · rw [upd_other _ _ e2]; exact (h.regs u r).mono hsub
    · rw [upd_other _ _ e]; exact (h.regs u r).mono hsub
  · rw [hke]; exact (h.saved u r).mono hsub
  · rw [hke]; exact (h.fields u p o hh v hv').mono hsub
  · rw [hke]
    exact ⟨hsub _ (h.recd u p v hh).1, (h.recd u p v hh).2⟩
  · rw [hke]
    obtain ⟨g1, g2, g3, g4⟩ := h.own u p o hh
    obtain ⟨z, rfl, hz⟩ := nums_mem (h.sub g1)
    have := hlt z hz
    refine ⟨hsub _ g1, ?_, ?_, g4⟩
    · dsimp only; rw [Int.toNat_natCast] at g2 ⊢; rw [hsame z (by omega)]; exact g2
    · dsimp only; rw [Int.toNat_natCast] at g3 ⊢; rw [hsame _ (by omega)]; exact g3
  · dsimp only
    rcases List.mem_append.1 hp with hp | hp
    · have := hlt p hp
      rw [hsame p (by omega)]
      exact h.state p hp
    · simp at hp
      subst hp
      rw [hsame _ (by omega), hrz _ (Nat.le_refl _) (by omega)]
      exact ⟨fun e => by omega, fun _ => by omega⟩
  · dsimp only
    by_cases e : u = t
    · subst e
      rw [upd_same, upd_other _ _ (by omega)]
      exact (h.out u r hur).1
    · rw [upd_other _ _ e]; exact (h.out u r hur).1
  · obtain ⟨qs, h1, h2, h3⟩ := h.ret hg
    exact ⟨qs, h1, ⟨fun q hq => List.mem_append_left _ (h2.sub q hq), h2.sorted⟩, h3⟩
  · have := h.ctop hg
    dsimp only
    omega
  · rw [hke]
    intro p hp q hr
    rcases List.mem_append.1 hp with hp | hp
    · have hpl := mem_nums.1 (h.sub hp)
      have := hlt p hpl
      refine hsub _ (h.closed p hp q ?_)
      obtain ⟨j, hj, h1, h2, h3⟩ := hr
      dsimp only at hj h1 h2
      rw [hsame _ (by omega)] at hj
      have hj' : j < lenAt c.xs p := by have := (h.place hpl).2.2.2.1; omega
      rw [hsame _ (by omega)] at h1 h2
      exact ⟨j, hj, h1, h2, h3⟩
    · have hp' : (p : Int) = (T : Int) := by simpa using hp
      obtain rfl : p = T := by omega
      obtain ⟨j, hj, h1, h2, h3⟩ := hr
      dsimp only at hj h1 h2
      rw [hnew] at hj
      rw [hsame _ (by omega), hrz _ (by omega) (by omega)] at h1
      omega

theorem Inv.collect {c : Mc} {l : List Nat} {k : Nat} (h : Inv c l k) (hg : c.coll.going = false) {rs zs : List Int} (hrs : ∀ q, q ∈ rs ↔ IsRoot c q) (hz : ReachOf c.xs l rs zs) : Good ⟨c.xs, c.top, c.regs, c.tx, ⟨true, zs, zs.length, c.top⟩⟩ l k := by
  have hro : RootsOk (nums l) rs := fun q hq => .inr (h.sub (h.roots ((hrs q).1 hq)))
  have hmem : ∀ q, q ∈ zs ↔ Reached c.xs rs q := fun q => hz.mem h.valid.fields hro
  have hnz : ∀ q, q ∈ nums l → q ≠ 0 := fun q hq e => by
    obtain ⟨p, e', hp⟩ := nums_mem hq
    have := h.place hp
    omega
  have hroot : ∀ q, IsRoot c q → q ∈ zs := fun q hq => (hmem q).2 (.root ((hrs q).2 hq) (hnz q (h.sub (h.roots hq))))
  have hke : keepL (⟨c.xs, c.top, c.regs, c.tx, ⟨true, zs, zs.length, c.top⟩⟩ : Mc) l = zs := by
    unfold keepL
    dsimp only
    rw [if_pos rfl]
    have : (nums l).filter (fun q => decide (c.top ≤ q)) = [] := by
      rw [List.filter_eq_nil_iff]
      intro q hq
      obtain ⟨p, rfl, hp⟩ := nums_mem hq
      have := h.place hp
      simp
      omega
    rw [this, List.append_nil]
  have hks : keepL c l = nums l := by unfold keepL; rw [if_neg (by rw [hg]; simp)]
  have hvin : ∀ v : Val, ValIn (keepL c l) v → (v.k = 1 → IsRoot c v.n) → ValIn zs v := fun v hv hr => hv.imp id (fun ⟨h1, _⟩ => ⟨h1, hroot _ (hr h1)⟩)
  have eta : ∀ v : Val, v.k = 1 → v = ⟨1, v.n⟩ := fun v e => by obtain ⟨a, b⟩ := v; dsimp only at e; rw [e]
  have hlen : zs.length ≤ l.length := hz.length
  have hl4 : l.length ≤ 400 := sorted_len (Lw.objs_spec c.top.toNat 1 l (by omega) h.valid.objects.1).2 (fun q hq => by have := h.place hq; have := h.valid.len2; omega)
  obtain ⟨mm, hzm, _⟩ := hz
  refine ⟨⟨h.valid, h.fits, h.nonil, fun u r => ?_, fun u r => ?_, fun u p o hh v hv => ?_, fun u p v hh => ?_, fun u p o hh => ?_, h.state, h.shut, h.high, h.out, fun _ => ?_, fun _ => Int.le_refl _, fun e => (by cases e), ?_⟩, fun _ => ⟨by dsimp only; omega, by dsimp only; omega⟩⟩
  · rw [hke]
    by_cases hur : 4 ≤ u ∨ 4 ≤ r
    · dsimp only; rw [(h.out u r hur).1]; exact ValIn.zero _
    · exact hvin _ (h.regs u r) (fun e => .inl (.inl ⟨u, r, by omega, by omega, eta _ e⟩))
  · rw [hke]
    by_cases hur : 4 ≤ u ∨ 4 ≤ r
    · dsimp only; rw [(h.out u r hur).2]; exact ValIn.zero _
    · exact hvin _ (h.saved u r) (fun e => .inl (.inr (.inl ⟨u, r, by omega, by omega, eta _ e⟩)))
  · rw [hke]
    exact hvin v (h.fields u p o hh v hv) (fun e => .inl (.inr (.inr ⟨u, p, o, h.own4 hh, hh, by rw [← eta v e]; exact hv⟩)))
  · rw [hke]
    have h4 : u < 4 := by
      rcases Nat.lt_or_ge u 4 with h' | h'
      · exact h'
      · have hh' : (c.tx u).recd p = some v := hh
        rw [h.high u h'] at hh'; cases hh'
    exact ⟨hroot p (.inr ⟨u, h4, .inl ⟨v, hh⟩⟩), (h.recd u p v hh).2⟩
  · rw [hke]
    exact ⟨hroot p (.inr ⟨u, h.own4 hh, .inr ⟨o, hh⟩⟩), (h.own u p o hh).2⟩
  · refine ⟨l.filter (fun q : Nat => mm (q : Int)), ?_, ⟨fun q hq => (List.mem_filter.1 hq).1, (Lw.objs_spec c.top.toNat 1 l (by omega) h.valid.objects.1).2.filter _⟩, fun q hq => ?_⟩
    · dsimp only
      rw [hzm]
      unfold nums
      rw [List.filter_map]
      rfl
    · have := h.place (List.mem_filter.1 hq).1
      dsimp only
      omega
  · rw [hke]
    intro p hp q hr
    exact (hmem q).2 (((hmem p).1 hp).step hr)

theorem Inv.finish {c c' : Mc} {l : List Nat} {k : Nat} {f : Int} (h : Inv c l k) (hg : c.coll.going = true) (hf : CFinish c l f c') : ∃ l', Inv c' l' k ∧ c'.coll = .zero ∧ c'.coll.going = false := by
  obtain ⟨qs, m, tx', hkq, hd, htx, _, rfl⟩ := hf
  obtain ⟨qs', hkq', hkept, hclosed⟩ := h.kept hg
  obtain rfl := nums_inj (hkq.symm.trans hkq')
  have hv := h.valid
  have hroom := Room.of hv.objects hkept
  have v1 := hv.top1
  have v2 := hv.top2
  have v3 := hv.len2
  have ht : c.top.toNat ≤ c.xs.length := by omega
  have hvb := valid_built hv hkept hd hclosed rfl
  have hto : ∀ i, i < qs.length → (toAt c.xs qs i : Nat) ∈ destOf c.xs qs := fun i hi => mem_destOf.2 ⟨i, hi, rfl⟩
  have hmv : ∀ p, p ∈ keepL c l → ∃ i, i < qs.length ∧ p = (qs.getD i 0 : Nat) ∧ mvN m p = (toAt c.xs qs i : Nat) := fun p hp => by
    rw [hkq] at hp
    obtain ⟨i, hi, e⟩ := mem_at.1 hp
    rw [nums_length] at hi
    rw [nums_getD] at e
    refine ⟨i, hi, e.symm, ?_⟩
    unfold mvN
    rw [← e, hd.new i hi]
    rfl
  have hvin : ∀ v, ValIn (keepL c l) v → ValIn (nums (destOf c.xs qs)) (mvV m v) := fun v hv => by
    unfold mvV
    rcases hv with ⟨h1, h2⟩ | ⟨h1, h2⟩
    · rw [if_neg (by omega)]; exact .inl ⟨h1, h2⟩
    · rw [if_pos h1]
      obtain ⟨i, hi, _, e⟩ := hmv _ h2
      exact .inr ⟨rfl, by dsimp only; rw [e]; exact mem_nums.2 (hto i hi)⟩
  have hz : ∀ t, c.tx t = .zero → tx' t = .zero := fun t e => (e ▸ htx t : MvTx m .zero (tx' t)).unique (MvTx.zero m)
  have hmz : mvV m .zero = .zero := rfl
  have hke : keepL (⟨built c.xs.length c.xs m qs qs.length, (toAt c.xs qs qs.length : Nat), fun t r => mvV m (c.regs t r), tx', .zero⟩ : Mc) (destOf c.xs qs) = nums (destOf c.xs qs) := by
    unfold keepL
    rw [if_neg (by simp [Coll.zero])]
  refine ⟨destOf c.xs qs, ⟨hvb, built_fits hd hroom (by omega) (by omega) h.fits _, fun p hp j hj => ?_, fun u r => ?_, fun u r => ?_, fun u p o hh v hv' => ?_, fun u p v hh => ?_, fun u p o hh => ?_, fun p hp => ?_, fun u hu => ?_, fun u hu => hz u (h.high u hu), fun u r hur => ⟨?_, ?_⟩, fun e => (by cases e), fun e => (by cases e), fun _ => rfl, ?_⟩, rfl, rfl⟩
  · obtain ⟨i, hi, rfl⟩ := mem_destOf.1 hp
    dsimp only at hj ⊢
    rw [hroom.built_len ht _ m hi] at hj
    have hql := hkept.sub _ (getD_mem hi)
    have hjl : j < lenAt c.xs (qs.getD i 0) := by have := (h.place hql).2.2.2.1; omega
    rw [hroom.built_field ht _ m hi hjl]
    rcases redir_cases hd hclosed hi hj _ rfl with ⟨h1, h2⟩ | ⟨h1, h2⟩ | ⟨h1, jj, hjj, h2⟩
    · rw [h2]; omega
    · exfalso
      have h0 := h.nonil _ hql j hj
      rcases (h.valid.fields _ hql j hj).1 h1 with h3 | ⟨q, hq, hqe⟩
      · exact h0 h3
      · have hr := hclosed i hi q ⟨j, hj, h1, hqe.symm, by have := h.place hq; omega⟩
        obtain ⟨jj, hjj, e⟩ := mem_at.1 hr
        rw [nums_length] at hjj
        rw [nums_getD] at e
        unfold redir at h2
        rw [if_pos h1, ← hqe, ← e, hd.new jj hjj] at h2
        have : 1 ≤ toAt c.xs qs jj := by unfold toAt; omega
        simp at h2
        omega
    · rw [h2]
      have : 1 ≤ toAt c.xs qs jj := by unfold toAt; omega
      omega
  · rw [hke]; exact hvin _ (h.regs u r)
  · rw [hke]
    dsimp only
    rw [(htx u).saved r]
    exact hvin _ (h.saved u r)
  · rw [hke]
    obtain ⟨p0, o0, h1, h2, rfl⟩ := ((htx u).own p o).1 hh
    obtain ⟨v0, hv0, rfl⟩ := List.mem_map.1 hv'
    exact hvin _ (h.fields u p0 o0 h1 v0 hv0)
  · rw [hke]
    obtain ⟨p0, v0, h1, h2, h3⟩ := ((htx u).recd p v).1 hh
    have h3' : v0 = v := h3
    subst h3'
    obtain ⟨g1, g2⟩ := h.recd u p0 v0 h1
    obtain ⟨i, hi, _, e⟩ := hmv p0 g1
    rw [← h2, e]
    exact ⟨mem_nums.2 (hto i hi), g2⟩
  · rw [hke]
    obtain ⟨p0, o0, h1, h2, rfl⟩ := ((htx u).own p o).1 hh
    obtain ⟨g1, g2, g3, g4⟩ := h.own u p0 o0 h1
    obtain ⟨i, hi, e0, e⟩ := hmv p0 g1
    rw [← h2, e]
    rw [e0, Int.toNat_natCast] at g2 g3
    refine ⟨mem_nums.2 (hto i hi), ?_, ?_, g4⟩
    · dsimp only; rw [Int.toNat_natCast, hroom.built_state ht _ m hi]; exact g2
    · dsimp only; rw [Int.toNat_natCast, hroom.built_len ht _ m hi, List.length_map]; exact g3
  · obtain ⟨i, hi, rfl⟩ := mem_destOf.1 hp
    dsimp only
    rw [hroom.built_state ht _ m hi]
    have hql := hkept.sub _ (getD_mem hi)
    refine ⟨fun e => ?_, (h.state _ hql).2⟩
    obtain ⟨u, o, hu, hou⟩ := (h.state _ hql).1 e
    refine ⟨u, _, hu, ((htx u).own _ _).2 ⟨_, o, hou, ?_, rfl⟩⟩
    unfold mvN
    rw [hd.new i hi]
    rfl
  · refine hz u (h.shut u ?_)
    rw [← (htx u).isOpen]
    exact hu
  · dsimp only; rw [(h.out u r hur).1, hmz]
  · dsimp only; rw [(htx u).saved r, (h.out u r hur).2, hmz]
  · rw [hke]
    intro p hp q hr
    exact hr.mem hvb.fields (mem_nums.1 hp)

theorem Good.mono {c : Mc} {l : List Nat} {k k' : Nat} (h : Good c l k) (hk : k ≤ k') : Good c l k' := ⟨h.inv.mono hk, h.left⟩

/-- What an act does not do to a collection. -/
theorem Good.of {c c' : Mc} {l l' : List Nat} {k k' : Nat} (h : Good c l k) (hi : Inv c' l' k') (hc : c'.coll = c.coll) : Good c' l' k' := ⟨hi, by rw [hc]; exact h.left⟩

theorem CUndo.coll {c c' : Mc} {t : Nat} (h : CUndo c t c') : c'.coll = c.coll := by obtain ⟨ys, _, rfl⟩ := h; rfl

theorem firstErr_in {a : Stm.Act} (h : firstErr a = 0) : (a.kind ≤ 9 → In4 a.t) ∧ (usesA a.kind → In4 a.a) ∧ (usesB a.kind → In4 a.b) ∧ (a.kind = 8 → In4 a.n) := by
  unfold firstErr at h
  split at h
  · cases h
  · split at h
    · cases h
    · rename_i hh
      exact ⟨fun h1 => Classical.byContradiction fun h2 => hh (.inl ⟨h1, h2⟩), fun h1 => Classical.byContradiction fun h2 => hh (.inr (.inl ⟨h1, h2⟩)), fun h1 => Classical.byContradiction fun h2 => hh (.inr (.inr (.inl ⟨h1, h2⟩))), fun h1 => Classical.byContradiction fun h2 => hh (.inr (.inr (.inr ⟨h1, h2⟩)))⟩

theorem Good.acc {c c' : Mc} {l : List Nat} {k t : Nat} {r : Ans} {v : Val} {n : Int} {good : Prop} (h : Good c l k) (hk : k < 400) (ha : CAcc c l t v n r c' good) (hg : (c.tx t).isOpen = true → v.k = 1 ∧ v.n ≠ 0 → v.n ∈ nums l → 0 ≤ n → n < c.xs.getD (v.n.toNat + 1) 0 → ¬ Owned c.xs t v.n → good → ∃ l', Good c' l' (k + 1)) : ∃ l', Good c' l' (k + 1) := by
  by_cases h1 : (c.tx t).isOpen = true
  · have ha := ha.yes h1
    by_cases h2 : v.k = 1 ∧ v.n ≠ 0
    · have ha := ha.yes h2
      by_cases h3 : v.n ∈ nums l ∧ 0 ≤ n ∧ n < c.xs.getD (v.n.toNat + 1) 0
      · have ha := ha.yes h3
        by_cases h4 : Owned c.xs t v.n
        · have ha := ha.yes h4
          exact ⟨l, h.of ((h.inv.undo (by omega) ha.2).mono (Nat.le_succ k)) (CUndo.coll ha.2)⟩
        · exact hg h1 h2 h3.1 h3.2.1 h3.2.2 h4 (ha.no h4)
      · have ha := ha.no h3; rw [ha.2]; exact ⟨l, h.mono (Nat.le_succ k)⟩
    · have ha := ha.no h2; rw [ha.2]; exact ⟨l, h.mono (Nat.le_succ k)⟩
  · have ha := ha.no h1; rw [ha.2]; exact ⟨l, h.mono (Nat.le_succ k)⟩

theorem Good.step {c c' : Mc} {l : List Nat} {k : Nat} {a : Stm.Act} {r : Ans} (h : Good c l k) (hk : k < 400) (hs : StepC c l a r c') : ∃ l', Good c' l' (k + 1) := by
  have same : c' = c → ∃ l', Good c' l' (k + 1) := fun e => ⟨l, e ▸ h.mono (Nat.le_succ k)⟩
  have undo : CUndo c a.t.toNat c' → ∃ l', Good c' l' (k + 1) := fun e => ⟨l, h.of ((h.inv.undo (by omega) e).mono (Nat.le_succ k)) (CUndo.coll e)⟩
  by_cases h0 : firstErr a = 0
  · have hs := hs.yes h0
    obtain ⟨i1, i2, i3, i4⟩ := firstErr_in h0
    by_cases h1 : a.kind = 1
    · have hs := hs.yes h1
      have it := i1 (by omega)
      unfold In4 at it
      by_cases ho : (c.tx a.t.toNat).isOpen = true
      · exact same (hs.yes ho).2
      · have := (hs.no ho).2
        rw [this]
        exact ⟨l, h.of ((h.inv.begin (by omega) (by simpa using ho)).mono (Nat.le_succ k)) rfl⟩
    have hs := hs.no h1
    by_cases h2 : a.kind = 2
    · have hs := hs.yes h2
      by_cases ho : (c.tx a.t.toNat).isOpen = true
      · have hs := hs.yes ho
        by_cases hh : Holds c a.t.toNat
        · obtain ⟨_, ys, hy, rfl⟩ := hs.yes hh
          exact ⟨l, h.of (h.inv.commit hk hy) rfl⟩
        · exact undo (hs.no hh).2
      · exact same (hs.no ho).2
    have hs := hs.no h2
    by_cases h3 : a.kind = 3
    · have hs := hs.yes h3
      by_cases ho : (c.tx a.t.toNat).isOpen = true
      · exact undo (hs.yes ho).2
      · exact same (hs.no ho).2
    have hs := hs.no h3
    by_cases h4 : a.kind = 4
    · have hs := hs.yes h4
      have it := i1 (by omega)
      have ia := i2 (by unfold usesA; omega)
      unfold In4 at it ia
      by_cases ho : (c.tx a.t.toNat).isOpen = true
      · have hs := hs.yes ho
        by_cases hn : 0 ≤ a.n ∧ a.n ≤ 6
        · have hs := hs.yes hn
          by_cases hf : 2 + a.n ≤ c.xs.length - c.top
          · have hs := hs.yes hf
            obtain ⟨f, hfe⟩ := Int.eq_ofNat_of_zero_le hn.1
            obtain ⟨T, hT⟩ := Int.eq_ofNat_of_zero_le (a := c.top) (by have := h.inv.valid.top1; omega)
            have hi := h.inv.new (t := a.t.toNat) (A := a.a.toNat) (f := f) (by omega) (by omega) hT (by omega) (by omega)
            refine ⟨l ++ [T], h.of (Inv.mono ?_ (Nat.le_succ k)) (by rw [hs.2])⟩
            rw [hs.2, hT, hfe, Int.toNat_natCast]
            exact hi
          · exact same (hs.no hf).2
        · exact same (hs.no hn).2
      · exact same (hs.no ho).2
    have hs := hs.no h4
    by_cases h5 : a.kind = 5
    · have hs := hs.yes h5
      have it := i1 (by omega)
      have ia := i2 (by unfold usesA usesB; omega)
      unfold In4 at it ia
      refine h.acc hk hs (fun g1 g2 g3 g4 g5 g6 g7 => ?_)
      obtain ⟨p, hp, hpl⟩ := nums_mem g3
      have hkeep : (p : Int) ∈ keepL c l := by
        rcases h.inv.regs a.t.toNat a.b.toNat with ⟨e, _⟩ | ⟨_, e⟩
        · rw [g2.1] at e; cases e
        · rw [← hp]; exact e
      rw [hp] at g5 g6 g7
      rw [Int.toNat_natCast] at g5
      rw [g7.2]
      exact ⟨l, h.of ((h.inv.get (by omega) (by omega) g1 hpl hkeep (by omega) g6).mono (Nat.le_succ k)) rfl⟩
    have hs := hs.no h5
    by_cases h6 : a.kind = 6
    · have hs := hs.yes h6
      have it := i1 (by omega)
      unfold In4 at it
      refine h.acc hk hs (fun g1 g2 g3 g4 g5 g6 g7 => ?_)
      obtain ⟨p, hp, hpl⟩ := nums_mem g3
      have hkeep : (p : Int) ∈ keepL c l := by
        rcases h.inv.regs a.t.toNat a.a.toNat with ⟨e, _⟩ | ⟨_, e⟩
        · rw [g2.1] at e; cases e
        · rw [← hp]; exact e
      rw [hp] at g5 g6 g7
      rw [Int.toNat_natCast] at g5
      rw [g7.2]
      exact ⟨l, h.of ((h.inv.put (by omega) (by omega) g1 hpl hkeep (by omega) g6).mono (Nat.le_succ k)) rfl⟩
    have hs := hs.no h6
    by_cases h7 : a.kind = 7
    · have hs := hs.yes h7
      have it := i1 (by omega)
      have ia := i2 (by unfold usesA; omega)
      unfold In4 at it ia
      by_cases hn : -1099511627776 ≤ a.n ∧ a.n ≤ 1099511627776
      · have hs := hs.yes hn
        rw [hs.2]
        exact ⟨l, h.of ((h.inv.setReg (by omega) (by omega) (.inl ⟨rfl, hn.1, hn.2⟩)).mono (Nat.le_succ k)) rfl⟩
      · exact same (hs.no hn).2
    have hs := hs.no h7
    by_cases h8 : a.kind = 8
    · have hs := hs.yes h8
      have it := i1 (by omega)
      have ia := i2 (by unfold usesA usesB; omega)
      unfold In4 at it ia
      by_cases hn : a.n.toNat ≠ a.t.toNat ∧ ((c.tx a.t.toNat).isOpen = true ∨ (c.tx a.n.toNat).isOpen = true)
      · exact same (hs.yes hn).2
      · have hs := hs.no hn
        rw [hs.2]
        exact ⟨l, h.of ((h.inv.setReg (by omega) (by omega) (h.inv.regs _ _)).mono (Nat.le_succ k)) rfl⟩
    have hs := hs.no h8
    by_cases h9 : a.kind = 9
    · exact same (hs.yes h9).2
    have hs := hs.no h9
    by_cases h10 : a.kind = 10
    · have hs := hs.yes h10
      by_cases hg : c.coll.going = true
      · exact same (hs.yes hg).2
      · obtain ⟨_, rs, zs, h1, h2, rfl⟩ := hs.no hg
        exact ⟨l, (h.inv.collect (by simpa using hg) h1 h2).mono (Nat.le_succ k)⟩
    have hs := hs.no h10
    by_cases h11 : a.kind = 11
    · have hs := hs.yes h11
      by_cases hn : 1 ≤ a.n ∧ a.n ≤ 400
      · have hs := hs.yes hn
        by_cases hg : c.coll.going = true
        · have hs := hs.yes hg
          by_cases hl : 0 < c.coll.left - a.n
          · have hs := hs.yes hl
            rw [hs.2]
            refine ⟨l, ⟨?_, fun _ => ?_⟩⟩
            · have := (h.inv.mono (Nat.le_succ k))
              exact { valid := this.valid, fits := this.fits, nonil := this.nonil, regs := by
                        have e : keepL (⟨c.xs, c.top, c.regs, c.tx, ⟨true, c.coll.ret, c.coll.left - a.n, c.coll.top⟩⟩ : Mc) l = keepL c l := by unfold keepL; rw [hg]
                        rw [e]; exact this.regs
                      saved := by
                        have e : keepL (⟨c.xs, c.top, c.regs, c.tx, ⟨true, c.coll.ret, c.coll.left - a.n, c.coll.top⟩⟩ : Mc) l = keepL c l := by unfold keepL; rw [hg]
                        rw [e]; exact this.saved
                      fields := by
                        have e : keepL (⟨c.xs, c.top, c.regs, c.tx, ⟨true, c.coll.ret, c.coll.left - a.n, c.coll.top⟩⟩ : Mc) l = keepL c l := by unfold keepL; rw [hg]
                        rw [e]; exact this.fields
                      recd := by
                        have e : keepL (⟨c.xs, c.top, c.regs, c.tx, ⟨true, c.coll.ret, c.coll.left - a.n, c.coll.top⟩⟩ : Mc) l = keepL c l := by unfold keepL; rw [hg]
                        rw [e]; exact this.recd
                      own := by
                        have e : keepL (⟨c.xs, c.top, c.regs, c.tx, ⟨true, c.coll.ret, c.coll.left - a.n, c.coll.top⟩⟩ : Mc) l = keepL c l := by unfold keepL; rw [hg]
                        rw [e]; exact this.own
                      state := this.state, shut := this.shut, high := this.high, out := this.out, ret := fun _ => this.ret hg, ctop := fun _ => this.ctop hg, stopped := fun e => (by cases e)
                      closed := by
                        have e : keepL (⟨c.xs, c.top, c.regs, c.tx, ⟨true, c.coll.ret, c.coll.left - a.n, c.coll.top⟩⟩ : Mc) l = keepL c l := by unfold keepL; rw [hg]
                        rw [e]; exact this.closed }
            · have := h.left hg
              dsimp only
              omega
          · obtain ⟨f, _, hf⟩ := hs.no hl
            obtain ⟨l', hi, hc, hg'⟩ := h.inv.finish hg hf
            exact ⟨l', hi.mono (Nat.le_succ k), fun e => by rw [hg'] at e; cases e⟩
        · exact same (hs.no hg).2
      · exact same (hs.no hn).2
    exact same (hs.no h11).2
  · exact same (hs.no h0).2

theorem Inv.init {n : Nat} (h1 : 1 ≤ n) (h2 : n ≤ 400) : Inv (Mc.init n) [] 0 := by
  have hk : keepL (Mc.init n) [] = [] := by
    unfold keepL
    rw [if_neg (by simp [Mc.init, Coll.zero])]
    rfl
  refine ⟨Lw.Valid.new n h1 h2, fun x hx => ?_, fun p hp => (by cases hp), fun _ _ => ValIn.zero _, fun _ _ => ValIn.zero _, fun _ _ _ h => (by cases h), fun _ _ _ h => (by cases h), fun _ _ _ h => (by cases h), fun p hp => (by cases hp), fun _ _ => rfl, fun _ _ => rfl, fun _ _ _ => ⟨rfl, rfl⟩, fun h => (by cases h), fun h => (by cases h), fun _ => rfl, fun p hp => ?_⟩
  · have := (List.mem_replicate.1 hx).2
    rw [this]
    exact fits_small (by omega) (by omega)
  · rw [hk] at hp; cases hp
theorem Good.init {n : Nat} (h1 : 1 ≤ n) (h2 : n ≤ 400) : Good (Mc.init n) [] 0 := ⟨Inv.init h1 h2, fun h => (by cases h)⟩
end Go.Proofs.Ytpdcaoagpjcgbab

