/-
  Plain mathematics: the machine with addresses does what the threads without addresses do. The relation between the two, and what follows from it. No program is named here. It proves no statement by itself.
-/
import Derived.Test.YtpdcaoagpjcgbabInvA
import Derived.Test.YtpdcaoagpjcgbabAbsA
set_option linter.unusedVariables false
set_option linter.unusedSimpArgs false
namespace Go.Proofs.Ytpdcaoagpjcgbab
open Stm

/-- A value and its name. -/
def VR (nm : Int → Option Stm.Id) (v : Val) : AV → Prop
  | .inl z => v.k = 0 ∧ v.n = z
  | .inr i => v.k = 1 ∧ nm v.n = some i
def VRL (nm : Int → Option Stm.Id) (vs : List Val) (zs : List AV) : Prop := vs.length = zs.length ∧ ∀ j, VR nm (vs.getD j .zero) (zs.getD j (.inl 0))

/-- What the object was when its owner, if any, became so. -/
def ownerOf (c : Mc) (p : Int) : Option Orig := if c.xs.getD p.toNat 0 % 2 = 1 then (c.tx (c.xs.getD p.toNat 0 / 2).toNat).own p else none
/-- The committed version of an object, and its committed fields. -/
def cver (c : Mc) (p : Int) : Int := match ownerOf c p with
  | some o => o.ver
  | none => c.xs.getD p.toNat 0 / 2
def cont (c : Mc) (p : Int) : List Val := match ownerOf c p with
  | some o => o.fields
  | none => valsAt c.xs p.toNat

theorem Inv.ownerOf {c : Mc} {l : List Nat} {k : Nat} (h : Inv c l k) {t : Nat} {p : Int} {o : Orig} (ho : (c.tx t).own p = some o) : ownerOf c p = some o := by
  have h1 := (h.own t p o ho).2.1
  unfold Go.Proofs.Ytpdcaoagpjcgbab.ownerOf
  rw [h1, if_pos (by omega), show ((2 * (t : Int) + 1) / 2).toNat = t by omega]
  exact ho
theorem ownerOf_none {c : Mc} {p : Int} (h : ∀ t, (c.tx t).own p = none) : ownerOf c p = none := by
  unfold ownerOf
  split
  · exact h _
  · rfl
theorem Inv.cver_own {c : Mc} {l : List Nat} {k : Nat} (h : Inv c l k) {t : Nat} {p : Int} {o : Orig} (ho : (c.tx t).own p = some o) : cver c p = o.ver ∧ cont c p = o.fields := by
  unfold cver cont
  rw [h.ownerOf ho]
  exact ⟨rfl, rfl⟩
theorem cver_free {c : Mc} {p : Int} (h : ∀ t, (c.tx t).own p = none) : cver c p = c.xs.getD p.toNat 0 / 2 ∧ cont c p = valsAt c.xs p.toNat := by
  unfold cver cont
  rw [ownerOf_none h]
  exact ⟨rfl, rfl⟩
theorem owned_or (c : Mc) (p : Int) : (∃ t o, (c.tx t).own p = some o) ∨ ∀ t, (c.tx t).own p = none := by
  by_cases h : ∃ t o, (c.tx t).own p = some o
  · exact .inl h
  · refine .inr fun t => ?_
    cases e : (c.tx t).own p with
    | none => rfl
    | some o => exact absurd ⟨t, o, e⟩ h
/-- Nothing of an object has changed but, perhaps, its fields, if it is owned. -/
theorem Inv.cver_same {c c' : Mc} {l l' : List Nat} {k k' : Nat} (h : Inv c l k) (h' : Inv c' l' k') {p : Int} (ho : ∀ t, (c'.tx t).own p = (c.tx t).own p) (hx : c'.xs.getD p.toNat 0 = c.xs.getD p.toNat 0) (hv : (∀ t, (c.tx t).own p = none) → valsAt c'.xs p.toNat = valsAt c.xs p.toNat) : cver c' p = cver c p ∧ cont c' p = cont c p := by
  rcases owned_or c p with ⟨t, o, e⟩ | e
  · have e' := e
    rw [← ho t] at e'
    rw [(h.cver_own e).1, (h.cver_own e).2, (h'.cver_own e').1, (h'.cver_own e').2]
    exact ⟨rfl, rfl⟩
  · rw [(cver_free e).1, (cver_free e).2, (cver_free (c := c') (fun t => (ho t).trans (e t))).1, (cver_free (c := c') (fun t => (ho t).trans (e t))).2, hx, hv e]
    exact ⟨rfl, rfl⟩

structure TxR (c : Mc) (nm : Int → Option Stm.Id) (C : Stm.Id → Prop) (t : Nat) (d : ATx) : Prop where
  saved : ∀ r, VR nm ((c.tx t).saved r) (d.saved r)
  recN : ∀ p v, (c.tx t).recd p = some v → ∃ i, nm p = some i ∧ (C i ∨ i.1 = t)
  ownN : ∀ p o, (c.tx t).own p = some o → ∃ i, nm p = some i
  reads : ∀ i, d.reads i ↔ C i ∧ ∃ p v, nm p = some i ∧ (c.tx t).recd p = some v
  over : ∀ p i, nm p = some i → ((d.over i).isSome = true ↔ ((∃ o, (c.tx t).own p = some o) ∨ (i.1 = t ∧ d.cnt0 ≤ i.2)))
  overV : ∀ p i vs, nm p = some i → d.over i = some vs → VRL nm (valsAt c.xs p.toNat) vs
  stale : d.stale ↔ ∃ p v, (c.tx t).recd p = some v ∧ cver c p ≠ v
  le : ∀ p v, (c.tx t).recd p = some v → v ≤ cver c p

structure ThR (c : Mc) (nm : Int → Option Stm.Id) (C : Stm.Id → Prop) (t : Nat) (x : TS) : Prop where
  regs : ∀ r, VR nm (c.regs t r) (x.regs r)
  shut : x.tx = none → (c.tx t).isOpen = false
  opened : ∀ d, x.tx = some d → (c.tx t).isOpen = true ∧ TxR c nm C t d

structure Sim (c : Mc) (l : List Nat) (s : AS) (nm : Int → Option Stm.Id) : Prop where
  dom : ∀ p i, nm p = some i → p ∈ nums l
  inj : ∀ p q i, nm p = some i → nm q = some i → p = q
  known : ∀ p i, nm p = some i → i.2 < (s.th i.1).cnt
  th : ∀ t, ThR c nm (Com s) t (s.th t)
  store : ∀ p i, nm p = some i → Com s i → VRL nm (cont c p) (s.store i)

theorem VR.mono {nm nm' : Int → Option Stm.Id} {v : Val} {a : AV} (h : VR nm v a) (hm : ∀ i, a = .inr i → nm v.n = some i → nm' v.n = some i) : VR nm' v a := by
  cases a with
  | inl z => exact h
  | inr i => exact ⟨h.1, hm i rfl h.2⟩
theorem VR.zero (nm : Int → Option Stm.Id) : VR nm .zero (.inl 0) := ⟨rfl, rfl⟩
theorem mem_getD {zs : List AV} {j : Nat} {i : Stm.Id} (h : zs.getD j (.inl 0) = .inr i) : .inr i ∈ zs := mem_of_getD h
theorem VRL.mono {nm nm' : Int → Option Stm.Id} {vs : List Val} {zs : List AV} (h : VRL nm vs zs) (hm : ∀ p i, .inr i ∈ zs → nm p = some i → nm' p = some i) : VRL nm' vs zs :=
  ⟨h.1, fun j => (h.2 j).mono fun i hi => hm _ i (mem_getD hi)⟩
theorem VR.told {nm : Int → Option Stm.Id} {v : Val} {a : AV} (h : VR nm v a) : ctold v = told a := by
  cases a with
  | inl z => unfold ctold; rw [if_pos h.1, h.2]; rfl
  | inr i => unfold ctold; rw [if_neg (by rw [h.1]; decide)]; rfl
theorem VR.same {nm : Int → Option Stm.Id} (hi : ∀ p q i, nm p = some i → nm q = some i → p = q) {v v' : Val} {a a' : AV} (h : VR nm v a) (h' : VR nm v' a') : valEq v v' = decide (a = a') := by
  unfold valEq
  obtain ⟨vk, vn⟩ := v
  obtain ⟨wk, wn⟩ := v'
  cases a with
  | inl z =>
    obtain ⟨rfl, rfl⟩ := h
    cases a' with
    | inl z' => obtain ⟨rfl, rfl⟩ := h'; by_cases e : vn = wn <;> simp [e]
    | inr i' => obtain ⟨rfl, _⟩ := h'; simp
  | inr i =>
    obtain ⟨rfl, h2⟩ := h
    cases a' with
    | inl z' => obtain ⟨rfl, rfl⟩ := h'; simp
    | inr i' =>
      obtain ⟨rfl, h3⟩ := h'
      dsimp only at h2 h3
      by_cases e : vn = wn
      · subst e
        rw [h2] at h3
        injection h3 with h3
        subst h3
        simp
      · by_cases e2 : i = i'
        · subst e2
          exact absurd (hi _ _ _ h2 h3) e
        · simp [e, e2]

theorem Sim.visRegs {c : Mc} {l : List Nat} {s : AS} {nm : Int → Option Stm.Id} (h : Sim c l s nm) (w : Wf s) {t r : Nat} {i : Stm.Id} (e : (s.th t).regs r = .inr i) : VisT (Com s) t (s.th t) i ∧ (c.regs t r).k = 1 ∧ nm (c.regs t r).n = some i := by
  have := (h.th t).regs r
  rw [e] at this
  exact ⟨(w.th t).regs r i e, this.1, this.2⟩

/-- An open transaction of the machine is one of the threads. -/
theorem Sim.openA {c : Mc} {l : List Nat} {s : AS} {nm : Int → Option Stm.Id} (h : Sim c l s nm) {t : Nat} (ho : (c.tx t).isOpen = true) : ∃ d, (s.th t).tx = some d ∧ TxR c nm (Com s) t d := by
  cases e : (s.th t).tx with
  | none => rw [(h.th t).shut e] at ho; cases ho
  | some d => exact ⟨d, rfl, ((h.th t).opened d e).2⟩
theorem Sim.shutA {c : Mc} {l : List Nat} {s : AS} {nm : Int → Option Stm.Id} (h : Sim c l s nm) {t : Nat} (ho : ¬ (c.tx t).isOpen = true) : (s.th t).tx = none := by
  cases e : (s.th t).tx with
  | none => rfl
  | some d => exact absurd ((h.th t).opened d e).1 ho
theorem Inv.openOwn {c : Mc} {l : List Nat} {k : Nat} (h : Inv c l k) {t : Nat} {p : Int} {o : Orig} (ho : (c.tx t).own p = some o) : (c.tx t).isOpen = true := by
  cases e : (c.tx t).isOpen with
  | true => rfl
  | false => rw [h.shut t e] at ho; cases ho
theorem Inv.openRec {c : Mc} {l : List Nat} {k : Nat} (h : Inv c l k) {t : Nat} {p v : Int} (ho : (c.tx t).recd p = some v) : (c.tx t).isOpen = true := by
  cases e : (c.tx t).isOpen with
  | true => rfl
  | false => rw [h.shut t e] at ho; cases ho

/-- Another thread owns the object in the machine, and so among the threads. -/
theorem Sim.busy {c : Mc} {l : List Nat} {k : Nat} {s : AS} {nm : Int → Option Stm.Id} (h : Sim c l s nm) (hi : Inv c l k) {t : Nat} {p : Int} {i : Stm.Id} (hp : nm p = some i) (hv : Com s i ∨ i.1 = t) : Owned c.xs t p ↔ Busy s t i := by
  obtain ⟨q, rfl, hq⟩ := nums_mem (h.dom p i hp)
  constructor
  · rintro ⟨h1, h2⟩
    rw [Int.toNat_natCast] at h1 h2
    obtain ⟨u, o, _, hu⟩ := (hi.state q hq).1 h1
    have h3 := (hi.own u q o hu).2.1
    rw [Int.toNat_natCast] at h3
    obtain ⟨d, hd, ht⟩ := h.openA (hi.openOwn hu)
    exact ⟨u, d, by omega, hd, (ht.over q i hp).2 (.inl ⟨o, hu⟩)⟩
  · rintro ⟨u, d, hne, hd, ho⟩
    have ht := ((h.th u).opened d hd).2
    rcases (ht.over q i hp).1 ho with ⟨o, hu⟩ | ⟨h1, h2⟩
    · have h3 := (hi.own u q o hu).2.1
      exact ⟨by rw [h3]; omega, by rw [h3]; omega⟩
    · exfalso
      rcases hv with hv | hv
      · unfold Com at hv
        rw [h1, ccnt_open hd] at hv
        omega
      · omega

/-- No owner. -/
theorem Sim.free {c : Mc} {l : List Nat} {k : Nat} {s : AS} {nm : Int → Option Stm.Id} (h : Sim c l s nm) (hi : Inv c l k) {t : Nat} {p : Int} {i : Stm.Id} (hp : nm p = some i) (hb : ¬ Busy s t i) (ho : (c.tx t).own p = none) : ∀ u, (c.tx u).own p = none := fun u => by
  by_cases e : u = t
  · subst e; exact ho
  · cases hx : (c.tx u).own p with
    | none => rfl
    | some o =>
      obtain ⟨d, hd, ht⟩ := h.openA (hi.openOwn hx)
      exact absurd ⟨u, d, e, hd, (ht.over p i hp).2 (.inl ⟨o, hx⟩)⟩ hb

theorem cont_length {c : Mc} {l : List Nat} {k : Nat} (hi : Inv c l k) {q : Nat} (hq : q ∈ l) : (cont c q).length = lenAt c.xs q := by
  rcases owned_or c q with ⟨t, o, e⟩ | e
  · rw [(hi.cver_own e).2]
    exact (hi.ownPlace e).2
  · rw [(cver_free e).2, Int.toNat_natCast]
    exact valsAt_length hi hq

/-- What a thread sees at an object: its length, and, if no other thread owns it, its fields. -/
theorem Sim.viewLen {c : Mc} {l : List Nat} {k : Nat} {s : AS} {nm : Int → Option Stm.Id} (h : Sim c l s nm) (w : Wf s) (hi : Inv c l k) {t : Nat} {d : ATx} (hd : (s.th t).tx = some d) {q : Nat} {i : Stm.Id} (hp : nm q = some i) (hv : VisT (Com s) t (s.th t) i) : ((view s.store d i).length : Int) = c.xs.getD (q + 1) 0 := by
  have hq := mem_nums.1 (h.dom _ i hp)
  have ht := ((h.th t).opened d hd).2
  rw [(hi.place hq).2.2.2.1]
  unfold view
  cases ho : d.over i with
  | some vs =>
    have := (ht.overV q i vs hp ho).1
    rw [Int.toNat_natCast, valsAt_length hi hq] at this
    rw [Option.getD_some, this]
  | none =>
    have := (h.store q i hp (w.readsCom hd hv ho)).1
    rw [cont_length hi hq] at this
    rw [Option.getD_none, this]
theorem Sim.view {c : Mc} {l : List Nat} {k : Nat} {s : AS} {nm : Int → Option Stm.Id} (h : Sim c l s nm) (w : Wf s) (hi : Inv c l k) {t : Nat} {d : ATx} (hd : (s.th t).tx = some d) {p : Int} {i : Stm.Id} (hp : nm p = some i) (hv : VisT (Com s) t (s.th t) i) (hb : ¬ Busy s t i) : VRL nm (valsAt c.xs p.toNat) (Stm.view s.store d i) := by
  have ht := ((h.th t).opened d hd).2
  unfold Stm.view
  cases ho : d.over i with
  | some vs => exact ht.overV p i vs hp ho
  | none =>
    have hn : (c.tx t).own p = none := by
      cases e : (c.tx t).own p with
      | none => rfl
      | some o =>
        have := (ht.over p i hp).2 (.inl ⟨o, e⟩)
        rw [ho] at this
        cases this
    have := h.store p i hp (w.readsCom hd hv ho)
    rw [(cver_free (h.free hi hp hb hn)).2] at this
    exact this
theorem valsAt_getD {c : Mc} {l : List Nat} {k : Nat} (hi : Inv c l k) {q : Nat} (hq : q ∈ l) {j : Nat} (hj : j < lenAt c.xs q) : (valsAt c.xs q).getD j .zero = Stm.valOf (c.xs.getD (q + 2 + j) 0) := by
  have e := fieldsAt_getD hj (xs := c.xs) (p := q)
  have hl : j < (fieldsAt c.xs q (lenAt c.xs q)).length := by rw [fieldsAt_length (hi.place hq).2.1]; exact hj
  rw [List.getD_eq_getElem?_getD, List.getElem?_eq_getElem hl] at e
  unfold valsAt
  rw [List.getD_eq_getElem?_getD, List.getElem?_map, List.getElem?_eq_getElem hl, ← e]
  rfl
theorem valsAt_ext {xs ys : List Int} {q : Nat} (h1 : ys.length = xs.length) (hq : q + 2 + lenAt xs q ≤ xs.length) (hl : ys.getD (q + 1) 0 = xs.getD (q + 1) 0) (hf : ∀ j, j < lenAt xs q → ys.getD (q + 2 + j) 0 = xs.getD (q + 2 + j) 0) : valsAt ys q = valsAt xs q := by
  have hll : lenAt ys q = lenAt xs q := by unfold lenAt; rw [hl]
  unfold valsAt
  rw [hll]
  congr 1
  refine list_ext_getD ?_ fun j => ?_
  · rw [fieldsAt_length hq, fieldsAt_length (by omega)]
  · rcases Nat.lt_or_ge j (lenAt xs q) with hj | hj
    · rw [fieldsAt_getD hj, fieldsAt_getD hj, hf j hj]
    · rw [List.getD_eq_getElem?_getD, List.getD_eq_getElem?_getD, List.getElem?_eq_none (by rw [fieldsAt_length (by omega)]; exact hj), List.getElem?_eq_none (by rw [fieldsAt_length hq]; exact hj)]
end Go.Proofs.Ytpdcaoagpjcgbab

/-
  Plain mathematics: the machine with addresses does what the threads without addresses do, act by act. No program is named here. It proves no statement by itself.
-/
namespace Go.Proofs.Ytpdcaoagpjcgbab
open Stm

theorem cver_congr {c c' : Mc} {p : Int} (ho : ∀ u, (c'.tx u).own p = (c.tx u).own p) (hx : c'.xs = c.xs) : cver c' p = cver c p ∧ cont c' p = cont c p := by
  have : ownerOf c' p = ownerOf c p := by
    unfold ownerOf
    rw [hx, ho]
  unfold cver cont
  rw [this, hx]
  exact ⟨rfl, rfl⟩

theorem TxR.frame {c c' : Mc} {nm : Int → Option Stm.Id} {C : Stm.Id → Prop} {u : Nat} {d : ATx} (h : TxR c nm C u d) (ht : c'.tx u = c.tx u) (hv : ∀ p v, (c.tx u).recd p = some v → cver c' p = cver c p)
    (hx : ∀ p i vs, nm p = some i → d.over i = some vs → valsAt c'.xs p.toNat = valsAt c.xs p.toNat) : TxR c' nm C u d := by
  refine ⟨by rw [ht]; exact h.saved, by rw [ht]; exact h.recN, by rw [ht]; exact h.ownN, by rw [ht]; exact h.reads, by rw [ht]; exact h.over, fun p i vs h1 h2 => ?_, ?_, ?_⟩
  · rw [hx p i vs h1 h2]; exact h.overV p i vs h1 h2
  · rw [ht, h.stale]
    constructor
    · rintro ⟨p, v, h1, h2⟩; exact ⟨p, v, h1, by rw [hv p v h1]; exact h2⟩
    · rintro ⟨p, v, h1, h2⟩; exact ⟨p, v, h1, by rw [← hv p v h1]; exact h2⟩
  · rw [ht]
    intro p v h1
    rw [hv p v h1]
    exact h.le p v h1
theorem ThR.frame {c c' : Mc} {nm : Int → Option Stm.Id} {C : Stm.Id → Prop} {u : Nat} {x : TS} (h : ThR c nm C u x) (hr : c'.regs u = c.regs u) (ht : c'.tx u = c.tx u) (hv : ∀ p v, (c.tx u).recd p = some v → cver c' p = cver c p)
    (hx : ∀ d p i vs, x.tx = some d → nm p = some i → d.over i = some vs → valsAt c'.xs p.toNat = valsAt c.xs p.toNat) : ThR c' nm C u x :=
  ⟨by rw [hr]; exact h.regs, by rw [ht]; exact h.shut, fun d e => ⟨by rw [ht]; exact (h.opened d e).1, (h.opened d e).2.frame ht hv (fun p i vs h1 h2 => hx d p i vs e h1 h2)⟩⟩

/-- A thread turns, and no name. -/
theorem Sim.turn {c c' : Mc} {l : List Nat} {k : Nat} {s : AS} {nm : Int → Option Stm.Id} (h : Sim c l s nm) (hi : Inv c l k) {t : Nat} {x : TS} (hcnt : x.cnt = (s.th t).cnt) (hcc : ccnt x = ccnt (s.th t)) (hx : ThR c' nm (Com s) t x)
    (hregs : ∀ u, u ≠ t → c'.regs u = c.regs u) (htx : ∀ u, u ≠ t → c'.tx u = c.tx u) (hcv : ∀ p i, nm p = some i → cver c' p = cver c p ∧ cont c' p = cont c p)
    (hval : ∀ u d p i vs, u ≠ t → (s.th u).tx = some d → nm p = some i → d.over i = some vs → valsAt c'.xs p.toNat = valsAt c.xs p.toNat) : Sim c' l (setTh s t x) nm := by
  refine ⟨h.dom, h.inj, fun p i hp => ?_, fun u => ?_, fun p i hp hC => ?_⟩
  · by_cases e : i.1 = t
    · rw [e, setTh_th, hcnt, ← e]; exact h.known p i hp
    · rw [setTh_other _ _ e]; exact h.known p i hp
  · rw [com_setTh hcc]
    by_cases e : u = t
    · subst e; rw [setTh_th]; exact hx
    · rw [setTh_other _ _ e]
      refine (h.th u).frame (hregs u e) (htx u e) (fun p v hp => ?_) (fun d p i vs h1 h2 h3 => hval u d p i vs e h1 h2 h3)
      obtain ⟨d, hd, ht⟩ := h.openA (hi.openRec hp)
      obtain ⟨i, h1, _⟩ := ht.recN p v hp
      exact (hcv p i h1).1
  · rw [com_setTh hcc] at hC
    rw [(hcv p i hp).2]
    exact h.store p i hp hC

theorem Sim.setReg {c : Mc} {l : List Nat} {k : Nat} {s : AS} {nm : Int → Option Stm.Id} (h : Sim c l s nm) (hi : Inv c l k) {t A : Nat} {v : Val} {av : AV} (hv : VR nm v av) : Sim ⟨c.xs, c.top, upd c.regs t (upd (c.regs t) A v), c.tx, c.coll⟩ l (setTh s t (Stm.setReg (s.th t) A av)) nm := by
  refine h.turn hi rfl rfl ⟨fun r => ?_, (h.th t).shut, fun d hd => ⟨((h.th t).opened d hd).1, ((h.th t).opened d hd).2.frame rfl (fun _ _ _ => rfl) (fun _ _ _ _ _ => rfl)⟩⟩ (fun u hu => upd_other _ _ hu) (fun _ _ => rfl) (fun p i _ => ⟨rfl, rfl⟩) (fun _ _ _ _ _ _ _ _ _ => rfl)
  show VR nm (upd c.regs t (upd (c.regs t) A v) t r) (upd (s.th t).regs A av r)
  rw [upd_same]
  by_cases e : r = A
  · subst e; rw [upd_same, upd_same]; exact hv
  · rw [upd_other _ _ e, upd_other _ _ e]; exact (h.th t).regs r

theorem Sim.begin {c : Mc} {l : List Nat} {k : Nat} {s : AS} {nm : Int → Option Stm.Id} (h : Sim c l s nm) (hi : Inv c l k) {t : Nat} (ho : (c.tx t).isOpen = false) :
    Sim ⟨c.xs, c.top, c.regs, upd c.tx t ⟨true, c.regs t, fun _ => none, fun _ => none⟩, c.coll⟩ l (setTh s t ⟨(s.th t).regs, (s.th t).cnt, some ⟨(s.th t).regs, (s.th t).cnt, fun _ => False, fun _ => none, False⟩⟩) nm := by
  have hz := hi.shut t ho
  have hn : (s.th t).tx = none := h.shutA (by rw [ho]; decide)
  have hT : upd c.tx t ⟨true, c.regs t, fun _ => none, fun _ => none⟩ t = ⟨true, c.regs t, fun _ => none, fun _ => none⟩ := upd_same _ _ _
  refine h.turn hi rfl (by rw [ccnt_shut hn]; rfl) ⟨(h.th t).regs, fun e => (by cases e), fun d e => ?_⟩ (fun _ _ => rfl) (fun u hu => upd_other _ _ hu) (fun p i _ => cver_congr (fun u => ?_) rfl) (fun _ _ _ _ _ _ _ _ _ => rfl)
  · injection e with e
    subst e
    refine ⟨by dsimp only; rw [hT], ⟨fun r => ?_, fun p v e => ?_, fun p o e => ?_, fun i => ⟨fun e => e.elim, fun ⟨_, p, v, _, e⟩ => ?_⟩, fun p i hp => ⟨fun e => (by cases e), fun e => ?_⟩, fun p i vs _ e => (by cases e), ⟨fun e => e.elim, fun ⟨p, v, e, _⟩ => ?_⟩, fun p v e => ?_⟩⟩
    · dsimp only; rw [hT]; exact (h.th t).regs r
    · dsimp only at e; rw [hT] at e; cases e
    · dsimp only at e; rw [hT] at e; cases e
    · dsimp only at e; rw [hT] at e; cases e
    · exfalso
      rcases e with ⟨o, e⟩ | ⟨e1, e2⟩
      · dsimp only at e; rw [hT] at e; cases e
      · have := h.known p i hp
        rw [e1] at this
        dsimp only at e2
        omega
    · dsimp only at e; rw [hT] at e; cases e
    · dsimp only at e; rw [hT] at e; cases e
  · dsimp only
    by_cases e : u = t
    · subst e; rw [hT, hz]; rfl
    · rw [upd_other _ _ e]

/-! ### Reading -/
theorem recTx_same (c : Mc) (t : Nat) (p : Int) : (recTx c t p).isOpen = (c.tx t).isOpen ∧ (recTx c t p).saved = (c.tx t).saved ∧ (recTx c t p).own = (c.tx t).own := by
  unfold recTx
  split <;> exact ⟨rfl, rfl, rfl⟩
theorem recTx_recd (c : Mc) (t : Nat) (p q v : Int) : (recTx c t p).recd q = some v ↔ (c.tx t).recd q = some v ∨ (q = p ∧ (c.tx t).own p = none ∧ (c.tx t).recd p = none ∧ v = verOf c t p) := by
  unfold recTx
  split
  · rename_i hh
    dsimp only
    by_cases e : q = p
    · subst e
      rw [setAt_same, hh.2]
      constructor
      · intro e; injection e with e; exact .inr ⟨rfl, hh.1, rfl, e.symm⟩
      · rintro (e | ⟨_, _, _, e⟩)
        · cases e
        · rw [e]
    · rw [setAt_other _ _ e]
      exact ⟨.inl, fun h => h.elim id (fun h => absurd h.1 e)⟩
  · rename_i hh
    exact ⟨.inl, fun h => h.elim id (fun h => absurd ⟨h.2.1, h.2.2.1⟩ hh)⟩

theorem Sim.get {c : Mc} {l : List Nat} {k : Nat} {s : AS} {nm : Int → Option Stm.Id} (h : Sim c l s nm) (w : Wf s) (hi : Inv c l k) {t A q n : Nat} {d : ATx} {i : Stm.Id} (hd : (s.th t).tx = some d) (hp : nm (q : Int) = some i) (hv : VisT (Com s) t (s.th t) i) (hb : ¬ Busy s t i) (hn : n < lenAt c.xs q) :
    Sim (getMc c t A q n) l (setTh s t (getT s.store (s.th t) d A i n)) nm := by
  have hq := mem_nums.1 (h.dom _ i hp)
  obtain ⟨hop, ht⟩ := (h.th t).opened d hd
  obtain ⟨r1, r2, r3⟩ := recTx_same c t (q : Int)
  have hT : (getMc c t A q n).tx t = recTx c t (q : Int) := upd_same _ _ _
  have hown : ∀ u p, ((getMc c t A q n).tx u).own p = (c.tx u).own p := fun u p => by
    by_cases e : u = t
    · subst e; rw [hT, r3]
    · show (upd c.tx t (recTx c t (q : Int)) u).own p = _; rw [upd_other _ _ e]
  have hcv : ∀ p, cver (getMc c t A q n) p = cver c p ∧ cont (getMc c t A q n) p = cont c p := fun p => cver_congr (fun u => hown u p) rfl
  have hfld := (h.view w hi hd hp hv hb).2 n
  rw [Int.toNat_natCast, valsAt_getD hi hq hn] at hfld
  have hver : (c.tx t).own (q : Int) = none → cver c q = verOf c t q := fun e => by
    rw [(cver_free (h.free hi hp hb e)).1]
    unfold verOf
    rw [e]
  refine h.turn hi rfl (by rw [ccnt_open hd]; rfl) ⟨fun r => ?_, fun e => (by cases e), fun d' e => ?_⟩ (fun u hu => upd_other _ _ hu) (fun u hu => upd_other _ _ hu) (fun p i _ => hcv p) (fun _ _ _ _ _ _ _ _ _ => rfl)
  · show VR nm (upd c.regs t (upd (c.regs t) A _) t r) (upd (s.th t).regs A _ r)
    rw [upd_same]
    by_cases e : r = A
    · subst e; rw [upd_same, upd_same, Int.toNat_natCast]; exact hfld
    · rw [upd_other _ _ e, upd_other _ _ e]; exact (h.th t).regs r
  · injection e with e
    subst e
    refine ⟨by rw [hT, r1]; exact hop, ⟨fun r => by rw [hT, r2]; exact ht.saved r, fun p v e => ?_, fun p o e => ht.ownN p o (by rw [← hown]; exact e), fun j => ⟨fun e => ?_, fun ⟨e1, p, v, e2, e3⟩ => ?_⟩, fun p j hj => ?_, fun p j vs h1 h2 => ht.overV p j vs h1 h2, ⟨fun e => ?_, fun ⟨p, v, e, e2⟩ => ?_⟩, fun p v e => ?_⟩⟩
    · rw [hT, recTx_recd] at e
      rcases e with e | ⟨rfl, _⟩
      · exact ht.recN p v e
      · exact ⟨i, hp, hv.imp id And.left⟩
    · rcases e with e | ⟨rfl, e⟩
      · obtain ⟨e1, p, v, e2, e3⟩ := (ht.reads j).1 e
        exact ⟨e1, p, v, e2, by rw [hT, recTx_recd]; exact .inl e3⟩
      · refine ⟨w.readsCom hd hv e, q, ?_⟩
        have hno : (c.tx t).own (q : Int) = none := by
          cases e4 : (c.tx t).own (q : Int) with
          | none => rfl
          | some o => have := (ht.over _ _ hp).2 (.inl ⟨o, e4⟩); rw [e] at this; cases this
        cases e5 : (c.tx t).recd (q : Int) with
        | some v => exact ⟨v, hp, by rw [hT, recTx_recd]; exact .inl e5⟩
        | none => exact ⟨_, hp, by rw [hT, recTx_recd]; exact .inr ⟨rfl, hno, e5, rfl⟩⟩
    · rw [hT, recTx_recd] at e3
      rcases e3 with e3 | ⟨rfl, e4, _⟩
      · exact .inl ((ht.reads j).2 ⟨e1, p, v, e2, e3⟩)
      · obtain rfl := Option.some.inj (hp.symm.trans e2)
        refine .inr ⟨rfl, ?_⟩
        cases e6 : d.over i with
        | none => rfl
        | some vs =>
          exfalso
          rcases (ht.over _ _ hp).1 (by rw [e6]; rfl) with ⟨o, e7⟩ | ⟨e7, e8⟩
          · rw [e4] at e7; cases e7
          · unfold Com at e1
            rw [e7, ccnt_open hd] at e1
            omega
    · rw [hown]; exact ht.over p j hj
    · obtain ⟨p, v, e1, e2⟩ := ht.stale.1 e
      exact ⟨p, v, by rw [hT, recTx_recd]; exact .inl e1, by rw [(hcv p).1]; exact e2⟩
    · rw [hT, recTx_recd] at e
      rw [(hcv p).1] at e2
      rcases e with e | ⟨rfl, e4, _, e5⟩
      · exact ht.stale.2 ⟨p, v, e, e2⟩
      · exact absurd (by rw [e5]; exact hver e4) e2
    · rw [hT, recTx_recd] at e
      rw [(hcv p).1]
      rcases e with e | ⟨rfl, e4, _, e5⟩
      · exact ht.le p v e
      · rw [e5, hver e4]; exact Int.le_refl _

/-! ### Writing -/
theorem ownTx_same (c : Mc) (t : Nat) (p : Int) : (ownTx c t p).isOpen = (c.tx t).isOpen ∧ (ownTx c t p).saved = (c.tx t).saved ∧ (ownTx c t p).recd = (c.tx t).recd := by
  unfold ownTx
  split <;> exact ⟨rfl, rfl, rfl⟩
theorem ownTx_own (c : Mc) (t : Nat) (p q : Int) : (ownTx c t p).own q = if q = p ∧ (c.tx t).own p = none then some ⟨verOf c t p, valsAt c.xs p.toNat⟩ else (c.tx t).own q := by
  unfold ownTx
  by_cases h1 : (c.tx t).own p = none
  · rw [if_pos h1]
    dsimp only
    by_cases e : q = p
    · subst e; rw [setAt_same, if_pos ⟨rfl, h1⟩]
    · rw [setAt_other _ _ e, if_neg (fun h => e h.1)]
  · rw [if_neg h1, if_neg (fun h => h1 h.2)]

theorem VRL.of {nm : Int → Option Stm.Id} {vs : List Val} {zs : List AV} (hl : vs.length = zs.length) (hj : ∀ j, j < zs.length → VR nm (vs.getD j .zero) (zs.getD j (.inl 0))) : VRL nm vs zs := by
  refine ⟨hl, fun j => ?_⟩
  rcases Nat.lt_or_ge j zs.length with h | h
  · exact hj j h
  · rw [List.getD_eq_getElem?_getD, List.getD_eq_getElem?_getD, List.getElem?_eq_none h, List.getElem?_eq_none (by omega)]
    exact VR.zero nm
theorem getD_setAV (zs : List AV) (n j : Nat) (a : AV) (hn : n < zs.length) : (zs.set n a).getD j (.inl 0) = if j = n then a else zs.getD j (.inl 0) := by
  rw [List.getD_eq_getElem?_getD, List.getElem?_set, List.getD_eq_getElem?_getD]
  by_cases e : j = n
  · subst e; simp [hn]
  · simp [e, Ne.symm e]
theorem valOf_wordOf {ks : List Int} {v : Val} (h : ValIn ks v) : Stm.valOf (Stm.wordOf v) = v := by
  obtain ⟨a, b⟩ := v
  unfold Stm.wordOf Stm.valOf
  rcases h with ⟨h1, _⟩ | ⟨h1, _⟩
  · dsimp only at h1 ⊢
    subst h1
    rw [if_pos rfl, if_neg (by omega)]
    congr 1
    omega
  · dsimp only at h1 ⊢
    subst h1
    rw [if_neg (show ¬ (1 : Int) = 0 by decide), if_pos (by omega)]
    congr 1
    omega

theorem Sim.put {c : Mc} {l : List Nat} {k : Nat} {s : AS} {nm : Int → Option Stm.Id} (h : Sim c l s nm) (w : Wf s) (hi : Inv c l k) {t B q n : Nat} (hi' : Inv (putMc c t B q n) l k) {d : ATx} {i : Stm.Id} (hd : (s.th t).tx = some d) (hp : nm (q : Int) = some i) (hv : VisT (Com s) t (s.th t) i) (hb : ¬ Busy s t i) (hn : n < lenAt c.xs q) :
    Sim (putMc c t B q n) l (setTh s t (putT s.store (s.th t) d B i n)) nm := by
  have hq := mem_nums.1 (h.dom _ i hp)
  have hpl := hi.place hq
  have hgap := objs_gap hi.valid.objects.1
  obtain ⟨hop, ht⟩ := (h.th t).opened d hd
  obtain ⟨r1, r2, r3⟩ := ownTx_same c t (q : Int)
  have hT : (putMc c t B q n).tx t = ownTx c t (q : Int) := upd_same _ _ _
  have hU : ∀ u, u ≠ t → (putMc c t B q n).tx u = c.tx u := fun u e => upd_other _ _ e
  have hown : ∀ u p, p ≠ (q : Int) → ((putMc c t B q n).tx u).own p = (c.tx u).own p := fun u p e => by
    by_cases e2 : u = t
    · subst e2; rw [hT, ownTx_own, if_neg (fun h => e h.1)]
    · rw [hU u e2]
  have hxs : ∀ j, j ≠ q → j ≠ q + 2 + n → (putMc c t B q n).xs.getD j 0 = c.xs.getD j 0 := fun j h1 h2 => by
    show ((ownXs c t q).set ((q : Int).toNat + 2 + n) _).getD j 0 = _
    rw [Int.toNat_natCast, Lw.getD_set_ne (Ne.symm h2)]
    unfold ownXs
    split
    · rw [Int.toNat_natCast, Lw.getD_set_ne (Ne.symm h1)]
    · rfl
  have hlen : (putMc c t B q n).xs.length = c.xs.length := by
    show ((ownXs c t q).set _ _).length = _
    rw [List.length_set]
    unfold ownXs
    split
    · rw [List.length_set]
    · rfl
  have hat : (putMc c t B q n).xs.getD (q + 2 + n) 0 = Stm.wordOf (c.regs t B) := by
    show ((ownXs c t q).set ((q : Int).toNat + 2 + n) _).getD (q + 2 + n) 0 = _
    rw [Int.toNat_natCast]
    refine Lw.getD_set_eq ?_
    rw [show (ownXs c t (q : Int)).length = c.xs.length by unfold ownXs; split <;> simp]
    omega
  have hvals : ∀ p ∈ l, p ≠ q → valsAt (putMc c t B q n).xs p = valsAt c.xs p := fun p hp' hne => by
    refine valsAt_ext hlen (hi.place hp').2.1 (hxs _ ?_ ?_) (fun j hj => hxs _ ?_ ?_)
    all_goals
      rcases Nat.lt_or_gt_of_ne hne with h1 | h1
      · have := hgap p hp' q hq h1; omega
      · have := hgap q hq p hp' h1; omega
  have hnt : (c.tx t).own (q : Int) = none → ∀ u, (c.tx u).own (q : Int) = none := fun e => h.free hi hp hb e
  have hcv : ∀ p j, nm p = some j → cver (putMc c t B q n) p = cver c p ∧ cont (putMc c t B q n) p = cont c p := fun p j hj => by
    obtain ⟨z, rfl, hz⟩ := nums_mem (h.dom p j hj)
    by_cases e : z = q
    · subst e
      cases ho : (c.tx t).own (z : Int) with
      | some o =>
        have ho' : ((putMc c t B z n).tx t).own (z : Int) = some o := by rw [hT, ownTx_own, if_neg (fun h => by rw [ho] at h; cases h.2)]; exact ho
        rw [(hi.cver_own ho).1, (hi.cver_own ho).2, (hi'.cver_own ho').1, (hi'.cver_own ho').2]
        exact ⟨rfl, rfl⟩
      | none =>
        have ho' : ((putMc c t B z n).tx t).own (z : Int) = some ⟨verOf c t z, valsAt c.xs (z : Int).toNat⟩ := by rw [hT, ownTx_own, if_pos ⟨rfl, ho⟩]
        have hf := cver_free (hnt ho)
        rw [(hi'.cver_own ho').1, (hi'.cver_own ho').2, hf.1, hf.2]
        refine ⟨?_, rfl⟩
        unfold verOf
        rw [ho]
    · refine hi.cver_same hi' (fun u => hown u z (by omega)) ?_ (fun _ => by rw [Int.toNat_natCast]; exact hvals z hz e)
      rw [Int.toNat_natCast]
      refine hxs z e (fun e2 => ?_)
      rcases Nat.lt_or_gt_of_ne e with h1 | h1
      · have := hgap z hz q hq h1; omega
      · have := hgap q hq z hz h1; omega
  refine h.turn hi rfl (by rw [ccnt_open hd]; rfl) ⟨(h.th t).regs, fun e => (by cases e), fun d' e => ?_⟩ (fun u hu => rfl) hU hcv (fun u d' p j vs hu hd' hj hvs => ?_)
  · injection e with e
    subst e
    refine ⟨by rw [hT, r1]; exact hop, ⟨fun r => by rw [hT, r2]; exact ht.saved r, by rw [hT, r3]; exact ht.recN, fun p o e => ?_, by rw [hT, r3]; exact ht.reads, fun p j hj => ?_, fun p j vs h1 h2 => ?_, ?_, ?_⟩⟩
    · by_cases e2 : p = (q : Int)
      · subst e2; exact ⟨i, hp⟩
      · rw [hown t p e2] at e; exact ht.ownN p o e
    · show (updI d.over i _ j).isSome = true ↔ _
      by_cases e2 : j = i
      · subst e2
        obtain rfl := h.inj _ _ _ hj hp
        rw [updI_same]
        refine ⟨fun _ => .inl ?_, fun _ => rfl⟩
        rw [hT, ownTx_own]
        split
        · exact ⟨_, rfl⟩
        · rename_i hh
          cases e3 : (c.tx t).own (q : Int) with
          | none => exact absurd ⟨rfl, e3⟩ hh
          | some o => exact ⟨o, rfl⟩
      · rw [updI_other _ _ e2]
        have hpq : p ≠ (q : Int) := fun e3 => by subst e3; exact e2 (Option.some.inj (hj.symm.trans hp))
        rw [hown t p hpq]
        exact ht.over p j hj
    · have h2' : updI d.over i (some ((Stm.view s.store d i).set n ((s.th t).regs B))) j = some vs := h2
      by_cases e2 : j = i
      · subst e2
        obtain rfl := h.inj _ _ _ h1 hp
        rw [updI_same] at h2'
        injection h2' with h2'
        subst h2'
        have hvw := h.view w hi hd hp hv hb
        have hl : (Stm.view s.store d j).length = lenAt c.xs q := by have := hvw.1; rw [Int.toNat_natCast, valsAt_length hi hq] at this; omega
        have hlq : lenAt (putMc c t B q n).xs q = lenAt c.xs q := by unfold lenAt; rw [hxs (q + 1) (by omega) (by omega)]
        rw [Int.toNat_natCast] at hvw ⊢
        refine VRL.of (by rw [valsAt_length hi' hq, List.length_set, hl, hlq]) (fun a ha => ?_)
        rw [List.length_set, hl] at ha
        rw [valsAt_getD hi' hq (by rw [hlq]; exact ha), getD_setAV _ _ _ _ (by rw [hl]; exact hn)]
        by_cases e4 : a = n
        · subst e4
          rw [if_pos rfl, hat, valOf_wordOf (hi.regs t B)]
          exact (h.th t).regs B
        · rw [if_neg e4, hxs _ (by omega) (by omega), ← valsAt_getD hi hq ha]
          exact hvw.2 a
      · rw [updI_other _ _ e2] at h2'
        obtain ⟨z, rfl, hz⟩ := nums_mem (h.dom p j h1)
        have hpq : z ≠ q := fun e3 => by subst e3; exact e2 (Option.some.inj (h1.symm.trans hp))
        have := ht.overV z j vs h1 h2'
        rw [Int.toNat_natCast] at this ⊢
        rw [hvals z hz hpq]
        exact this
    · rw [hT, r3]
      refine ht.stale.trans ⟨fun ⟨p, v, e1, e2⟩ => ⟨p, v, e1, ?_⟩, fun ⟨p, v, e1, e2⟩ => ⟨p, v, e1, ?_⟩⟩
      · obtain ⟨j, hj, _⟩ := ht.recN p v e1; rw [(hcv p j hj).1]; exact e2
      · obtain ⟨j, hj, _⟩ := ht.recN p v e1; rw [(hcv p j hj).1] at e2; exact e2
    · rw [hT, r3]
      intro p v e1
      obtain ⟨j, hj, _⟩ := ht.recN p v e1
      rw [(hcv p j hj).1]
      exact ht.le p v e1
  · obtain ⟨z, rfl, hz⟩ := nums_mem (h.dom p j hj)
    rw [Int.toNat_natCast]
    refine hvals z hz (fun e => ?_)
    subst e
    obtain rfl := Option.some.inj (hj.symm.trans hp)
    exact hb ⟨u, d', hu, hd', by rw [hvs]; rfl⟩
end Go.Proofs.Ytpdcaoagpjcgbab

/-
  Plain mathematics: the machine with addresses does what the threads without addresses do: the ends of transactions, and new objects. No program is named here. It proves no statement by itself.
-/
namespace Go.Proofs.Ytpdcaoagpjcgbab
open Stm

/-! ### Undoing -/
theorem Inv.undo_same {c : Mc} {l : List Nat} {k : Nat} (hi : Inv c l k) {t : Nat} {ys : List Int} (hy : Undone c.xs (c.tx t).own ys) (hi' : Inv ⟨ys, c.top, upd c.regs t (c.tx t).saved, upd c.tx t .zero, c.coll⟩ l k) {q : Nat} (hq : q ∈ l) :
    (cver ⟨ys, c.top, upd c.regs t (c.tx t).saved, upd c.tx t .zero, c.coll⟩ q = cver c q ∧ cont ⟨ys, c.top, upd c.regs t (c.tx t).saved, upd c.tx t .zero, c.coll⟩ q = cont c q) ∧ ((c.tx t).own (q : Int) = none → valsAt ys q = valsAt c.xs q) := by
  obtain ⟨h1, h2, h3⟩ := hi.undone hy hq
  have hpl := hi.place hq
  have hvn : (c.tx t).own (q : Int) = none → valsAt ys q = valsAt c.xs q := fun e => valsAt_ext hy.len hpl.2.1 h1 (h3 e).2
  refine ⟨?_, hvn⟩
  cases ho : (c.tx t).own (q : Int) with
  | none =>
    refine hi.cver_same hi' (fun u => ?_) ?_ (fun _ => ?_)
    · dsimp only
      by_cases e : u = t
      · subst e; rw [upd_same, ho]; rfl
      · rw [upd_other _ _ e]
    · dsimp only; rw [Int.toNat_natCast]; exact (h3 ho).1
    · dsimp only; rw [Int.toNat_natCast]; exact hvn ho
  | some o =>
    rw [(hi.cver_own ho).1, (hi.cver_own ho).2]
    have hfree : ∀ u, ((⟨ys, c.top, upd c.regs t (c.tx t).saved, upd c.tx t .zero, c.coll⟩ : Mc).tx u).own (q : Int) = none := fun u => by
      dsimp only
      by_cases e : u = t
      · subst e; rw [upd_same]; rfl
      · rw [upd_other _ _ e]
        cases hx : (c.tx u).own (q : Int) with
        | none => rfl
        | some o' => exact absurd (hi.excl hx ho) e
    rw [(cver_free hfree).1, (cver_free hfree).2]
    dsimp only
    rw [Int.toNat_natCast, (h2 o ho).1]
    refine ⟨by omega, ?_⟩
    have hll : lenAt ys q = lenAt c.xs q := by unfold lenAt; rw [h1]
    have hl2 := (hi.ownPlace ho).2
    have hlv : (valsAt ys q).length = lenAt c.xs q := by rw [← hll]; exact valsAt_length hi' hq
    refine List.ext_getElem (by rw [hlv, hl2]) fun j g1 g2 => ?_
    have e1 := valsAt_getD hi' hq (j := j) (by dsimp only; omega)
    dsimp only at e1
    rw [(h2 o ho).2 j (by omega), valOf_wordOf (hi.fields t q o ho (o.fields.getD j .zero) (by rw [val_getD g2]; exact List.getElem_mem _))] at e1
    rw [val_getD g1, val_getD g2] at e1
    exact e1

theorem Sim.undo {c c' : Mc} {l : List Nat} {k : Nat} {s : AS} {nm : Int → Option Stm.Id} (h : Sim c l s nm) (w : Wf s) (hi : Inv c l k) (hk : k ≤ 400) {t : Nat} {d : ATx} (hd : (s.th t).tx = some d) (hu : CUndo c t c') : ∃ nm', Sim c' l (setTh s t (undoT d)) nm' := by
  have hi' := hi.undo hk hu
  obtain ⟨ys, hy, rfl⟩ := hu
  have ht := ((h.th t).opened d hd).2
  obtain ⟨nm', hnm⟩ : ∃ nm' : Int → Option Stm.Id, ∀ p i, nm' p = some i ↔ nm p = some i ∧ ¬ (i.1 = t ∧ d.cnt0 ≤ i.2) := by
    refine ⟨fun p => (nm p).bind fun i => if i.1 = t ∧ d.cnt0 ≤ i.2 then none else some i, fun p i => ?_⟩
    rw [Option.bind_eq_some_iff]
    constructor
    · rintro ⟨j, e1, e2⟩
      split at e2
      · cases e2
      · rename_i hh
        injection e2 with e2
        subst e2
        exact ⟨e1, hh⟩
    · rintro ⟨e1, e2⟩
      exact ⟨i, e1, by rw [if_neg e2]⟩
  have hcom : ∀ i, Com s i → ¬ (i.1 = t ∧ d.cnt0 ≤ i.2) := fun i hc ⟨e1, e2⟩ => by
    unfold Com at hc
    rw [e1, ccnt_open hd] at hc
    omega
  have hvis : ∀ u i, u ≠ t → VisT (Com s) u (s.th u) i → ¬ (i.1 = t ∧ d.cnt0 ≤ i.2) := fun u i hne hv => by
    rcases hv with hv | hv
    · exact hcom i hv
    · intro e; exact hne (hv.1.symm.trans e.1)
  have hcc : ccnt (undoT d) = ccnt (s.th t) := by rw [ccnt_open hd]; rfl
  have hU : ∀ u, u ≠ t → upd c.tx t Tx.zero u = c.tx u := fun u e => upd_other _ _ e
  refine ⟨nm', fun p i hp => h.dom p i ((hnm p i).1 hp).1, fun p q i hp hq => h.inj p q i ((hnm p i).1 hp).1 ((hnm q i).1 hq).1, fun p i hp => ?_, fun u => ?_, fun p i hp hC => ?_⟩
  · obtain ⟨h1, h2⟩ := (hnm p i).1 hp
    by_cases e : i.1 = t
    · rw [e, setTh_th]
      show i.2 < d.cnt0
      rcases Nat.lt_or_ge i.2 d.cnt0 with h3 | h3
      · exact h3
      · exact absurd ⟨e, h3⟩ h2
    · rw [setTh_other _ _ e]; exact h.known p i h1
  · rw [com_setTh hcc]
    by_cases e : u = t
    · subst e
      rw [setTh_th]
      refine ⟨fun r => ?_, fun _ => by dsimp only; rw [upd_same]; rfl, fun d' e => (by cases e)⟩
      show VR nm' (upd c.regs u (c.tx u).saved u r) (d.saved r)
      rw [upd_same]
      exact (ht.saved r).mono fun i e1 e2 => (hnm _ i).2 ⟨e2, hcom i (((w.th u).tx d hd).saved r i e1)⟩
    · rw [setTh_other _ _ e]
      have hth := h.th u
      refine ⟨fun r => ?_, fun e1 => by dsimp only; rw [hU u e]; exact hth.shut e1, fun d' e1 => ?_⟩
      · dsimp only
        rw [upd_other _ _ e]
        exact (hth.regs r).mono fun i e1 e2 => (hnm _ i).2 ⟨e2, hvis u i e ((w.th u).regs r i e1)⟩
      · obtain ⟨g1, g2⟩ := hth.opened d' e1
        have wd := (w.th u).tx d' e1
        have hrecn : ∀ p v, (c.tx u).recd p = some v → ∃ i, nm p = some i ∧ nm' p = some i ∧ (Com s i ∨ i.1 = u) := fun p v e2 => by
          obtain ⟨i, e3, e4⟩ := g2.recN p v e2
          exact ⟨i, e3, (hnm p i).2 ⟨e3, e4.elim (hcom i) (fun e5 e6 => e (e5.symm.trans e6.1))⟩, e4⟩
        have hcv : ∀ p v, (c.tx u).recd p = some v → cver ⟨ys, c.top, upd c.regs t (c.tx t).saved, upd c.tx t .zero, c.coll⟩ p = cver c p := fun p v e2 => by
          obtain ⟨i, e3, _, _⟩ := hrecn p v e2
          obtain ⟨z, rfl, hz⟩ := nums_mem (h.dom p i e3)
          exact (hi.undo_same hy hi' hz).1.1
        refine ⟨by dsimp only; rw [hU u e]; exact g1, ⟨fun r => ?_, fun p v e2 => ?_, fun p o e2 => ?_, fun i => ⟨fun e2 => ?_, fun ⟨e2, p, v, e3, e4⟩ => ?_⟩, fun p i hp => ?_, fun p i vs hp hvs => ?_, ⟨fun e2 => ?_, fun ⟨p, v, e2, e3⟩ => ?_⟩, fun p v e2 => ?_⟩⟩
        · dsimp only
          rw [hU u e]
          exact (g2.saved r).mono fun i e2 e3 => (hnm _ i).2 ⟨e3, hcom i (wd.saved r i e2)⟩
        · dsimp only at e2
          rw [hU u e] at e2
          obtain ⟨i, _, e4, e5⟩ := hrecn p v e2
          exact ⟨i, e4, e5⟩
        · dsimp only at e2
          rw [hU u e] at e2
          obtain ⟨i, e3⟩ := g2.ownN p o e2
          obtain ⟨vs, hvs⟩ := Option.isSome_iff_exists.1 ((g2.over p i e3).2 (.inl ⟨o, e2⟩))
          exact ⟨i, (hnm p i).2 ⟨e3, hvis u i e (wd.overK i vs hvs)⟩⟩
        · obtain ⟨e3, p, v, e4, e5⟩ := (g2.reads i).1 e2
          exact ⟨e3, p, v, (hnm p i).2 ⟨e4, hcom i e3⟩, by dsimp only; rw [hU u e]; exact e5⟩
        · dsimp only at e4
          rw [hU u e] at e4
          exact (g2.reads i).2 ⟨e2, p, v, ((hnm p i).1 e3).1, e4⟩
        · dsimp only
          rw [hU u e]
          exact g2.over p i ((hnm p i).1 hp).1
        · have hp0 := ((hnm p i).1 hp).1
          obtain ⟨z, rfl, hz⟩ := nums_mem (h.dom p i hp0)
          have hno : (c.tx t).own (z : Int) = none := by
            cases e5 : (c.tx t).own (z : Int) with
            | none => rfl
            | some o =>
              have e6 := (ht.over z i hp0).2 (.inl ⟨o, e5⟩)
              have := w.excl t u d d' (Ne.symm e) hd e1 i e6
              rw [this] at hvs
              cases hvs
          have e7 := g2.overV z i vs hp0 hvs
          rw [Int.toNat_natCast] at e7 ⊢
          dsimp only
          rw [(hi.undo_same hy hi' hz).2 hno]
          exact e7.mono fun p j e8 e9 => (hnm p j).2 ⟨e9, hvis u j e (wd.overV i vs hvs j e8)⟩
        · obtain ⟨p, v, e3, e4⟩ := g2.stale.1 e2
          exact ⟨p, v, by dsimp only; rw [hU u e]; exact e3, by rw [hcv p v e3]; exact e4⟩
        · dsimp only at e2
          rw [hU u e] at e2
          rw [hcv p v e2] at e3
          exact g2.stale.2 ⟨p, v, e2, e3⟩
        · dsimp only at e2
          rw [hU u e] at e2
          rw [hcv p v e2]
          exact g2.le p v e2
  · rw [com_setTh hcc] at hC
    have hp0 := ((hnm p i).1 hp).1
    obtain ⟨z, rfl, hz⟩ := nums_mem (h.dom p i hp0)
    rw [(hi.undo_same hy hi' hz).1.2]
    exact (h.store z i hp0 hC).mono fun p j e8 e9 => (hnm p j).2 ⟨e9, hcom j (w.store i hC j e8)⟩

/-! ### Committing -/
theorem Sim.commit {c : Mc} {l : List Nat} {k k' : Nat} {s : AS} {nm : Int → Option Stm.Id} (h : Sim c l s nm) (w : Wf s) (hi : Inv c l k) {t : Nat} {d : ATx} (hd : (s.th t).tx = some d) {ys : List Int} (hy : Committed c.xs (c.tx t).own ys) (hi' : Inv ⟨ys, c.top, c.regs, upd c.tx t .zero, c.coll⟩ l k') :
    Sim ⟨ys, c.top, c.regs, upd c.tx t .zero, c.coll⟩ l (committed s t d) nm := by
  have ht := ((h.th t).opened d hd).2
  have wd := (w.th t).tx d hd
  have hgap := objs_gap hi.valid.objects.1
  have hU : ∀ u, u ≠ t → upd c.tx t Tx.zero u = c.tx u := fun u e => upd_other _ _ e
  have hnone : ∀ j : Nat, j ∉ l → (c.tx t).own j = none := fun j hj => by
    cases hx : (c.tx t).own (j : Int) with
    | none => rfl
    | some o => exact absurd (hi.ownPlace hx).1 hj
  have hvals : ∀ q ∈ l, valsAt ys q = valsAt c.xs q := fun q hq => by
    refine valsAt_ext hy.len (hi.place hq).2.1 (hy.rest _ (hnone _ (fun h2 => ?_))) (fun j hj => hy.rest _ (hnone _ (fun h2 => ?_)))
    · have := hgap q hq _ h2 (by omega); omega
    · have := hgap q hq _ h2 (by omega); omega
  have hownU : ∀ u p, u ≠ t → ((⟨ys, c.top, c.regs, upd c.tx t .zero, c.coll⟩ : Mc).tx u).own p = (c.tx u).own p := fun u p e => by dsimp only; rw [hU u e]
  have hownT : ∀ p, ((⟨ys, c.top, c.regs, upd c.tx t .zero, c.coll⟩ : Mc).tx t).own p = none := fun p => by dsimp only; rw [upd_same]; rfl
  have hfree : ∀ q : Nat, (∀ u, u ≠ t → (c.tx u).own (q : Int) = none) → ∀ u, ((⟨ys, c.top, c.regs, upd c.tx t .zero, c.coll⟩ : Mc).tx u).own (q : Int) = none := fun q hq u => by
    by_cases e : u = t
    · subst e; exact hownT _
    · rw [hownU u _ e]; exact hq u e
  have hcvN : ∀ q ∈ l, (c.tx t).own (q : Int) = none → cver ⟨ys, c.top, c.regs, upd c.tx t .zero, c.coll⟩ q = cver c q ∧ cont ⟨ys, c.top, c.regs, upd c.tx t .zero, c.coll⟩ q = cont c q := fun q hq hn => by
    refine hi.cver_same hi' (fun u => ?_) ?_ (fun _ => ?_)
    · by_cases e : u = t
      · subst e; rw [hownT, hn]
      · exact hownU u _ e
    · dsimp only; rw [Int.toNat_natCast]; exact hy.rest q hn
    · dsimp only; rw [Int.toNat_natCast]; exact hvals q hq
  have hcvY : ∀ q ∈ l, ∀ o, (c.tx t).own (q : Int) = some o → cver ⟨ys, c.top, c.regs, upd c.tx t .zero, c.coll⟩ q = cver c q + 1 := fun q hq o ho => by
    have hf := hfree q (fun u e => by
      cases hx : (c.tx u).own (q : Int) with
      | none => rfl
      | some o' => exact absurd (hi.excl hx ho) e)
    rw [(hi.cver_own ho).1, (cver_free hf).1]
    dsimp only
    rw [Int.toNat_natCast, hy.head q o ho]
    omega
  have hth : ∀ u, u ≠ t → (committed s t d).th u = markT d.over (s.th u) := fun u e => by simp [committed, e]
  have htt : (committed s t d).th t = ⟨(s.th t).regs, (s.th t).cnt, none⟩ := by simp [committed]
  have hcu : ∀ u, u ≠ t → ccnt ((committed s t d).th u) = ccnt (s.th u) := fun u e => by
    rw [hth u e]
    unfold ccnt markT
    cases (s.th u).tx <;> rfl
  have hsub : ∀ i, Com s i → Com (committed s t d) i := fun i hi => by
    unfold Com at hi ⊢
    by_cases e : i.1 = t
    · rw [e, htt, ccnt_shut rfl]
      rw [e, ccnt_open hd] at hi
      have := wd.cnt
      dsimp only
      omega
    · rw [hcu _ e]; exact hi
  have hback : ∀ i, Com (committed s t d) i → Com s i ∨ (i.1 = t ∧ d.cnt0 ≤ i.2 ∧ i.2 < (s.th t).cnt) := fun i hi => by
    by_cases e : i.1 = t
    · unfold Com at hi
      rw [e, htt, ccnt_shut rfl] at hi
      dsimp only at hi
      rcases Nat.lt_or_ge i.2 d.cnt0 with h1 | h1
      · left; unfold Com; rw [e, ccnt_open hd]; exact h1
      · exact .inr ⟨e, h1, hi⟩
    · left
      unfold Com at hi ⊢
      rw [hcu _ e] at hi
      exact hi
  refine ⟨h.dom, h.inj, fun p i hp => ?_, fun u => ?_, fun p i hp hC => ?_⟩
  · have := h.known p i hp
    by_cases e : i.1 = t
    · rw [e, htt, ← e]; exact this
    · rw [hth _ e]; exact this
  · by_cases e : u = t
    · subst e
      rw [htt]
      exact ⟨(h.th u).regs, fun _ => by dsimp only; rw [upd_same]; rfl, fun d' e => (by cases e)⟩
    · rw [hth u e]
      refine ⟨(h.th u).regs, fun e1 => ?_, fun d' e1 => ?_⟩
      · dsimp only
        rw [hU u e]
        refine (h.th u).shut ?_
        unfold markT at e1
        cases e2 : (s.th u).tx with
        | none => rfl
        | some d0 => rw [e2] at e1; cases e1
      · unfold markT at e1
        cases e2 : (s.th u).tx with
        | none => rw [e2] at e1; cases e1
        | some d0 =>
          rw [e2] at e1
          injection e1 with e1
          subst e1
          obtain ⟨g1, g2⟩ := (h.th u).opened d0 e2
          have wu := (w.th u).tx d0 e2
          have hnew : ∀ p v i, (c.tx u).recd p = some v → nm p = some i → Com (committed s t d) i → Com s i := fun p v i e3 e4 e5 => by
            rcases hback i e5 with e6 | ⟨e6, e7, _⟩
            · exact e6
            · obtain ⟨j, e8, e9⟩ := g2.recN p v e3
              obtain rfl := Option.some.inj (e4.symm.trans e8)
              exact e9.elim id (fun e9 => absurd (e9.symm.trans e6) e)
          refine ⟨by dsimp only; rw [hU u e]; exact g1, ⟨fun r => by dsimp only; rw [hU u e]; exact g2.saved r, fun p v e3 => ?_, fun p o e3 => ?_, fun i => ⟨fun e3 => ?_, fun ⟨e3, p, v, e4, e5⟩ => ?_⟩, fun p i hp => ?_, fun p i vs hp hvs => ?_, ⟨fun e3 => ?_, fun ⟨p, v, e3, e4⟩ => ?_⟩, fun p v e3 => ?_⟩⟩
          · dsimp only at e3
            rw [hU u e] at e3
            obtain ⟨i, e4, e5⟩ := g2.recN p v e3
            exact ⟨i, e4, e5.imp (hsub i) id⟩
          · dsimp only at e3
            rw [hU u e] at e3
            exact g2.ownN p o e3
          · obtain ⟨e4, p, v, e5, e6⟩ := (g2.reads i).1 e3
            exact ⟨hsub i e4, p, v, e5, by dsimp only; rw [hU u e]; exact e6⟩
          · dsimp only at e5
            rw [hU u e] at e5
            exact (g2.reads i).2 ⟨hnew p v i e5 e4 e3, p, v, e4, e5⟩
          · dsimp only
            rw [hU u e]
            exact g2.over p i hp
          · obtain ⟨z, rfl, hz⟩ := nums_mem (h.dom p i hp)
            have := g2.overV z i vs hp hvs
            dsimp only
            rw [Int.toNat_natCast] at this ⊢
            rw [hvals z hz]
            exact this
          · rcases e3 with e3 | ⟨i, e3, e4⟩
            · obtain ⟨p, v, e5, e6⟩ := g2.stale.1 e3
              refine ⟨p, v, by dsimp only; rw [hU u e]; exact e5, ?_⟩
              obtain ⟨i, e7, _⟩ := g2.recN p v e5
              obtain ⟨z, rfl, hz⟩ := nums_mem (h.dom p i e7)
              have hle := g2.le z v e5
              cases ho : (c.tx t).own (z : Int) with
              | none => rw [(hcvN z hz ho).1]; exact e6
              | some o => rw [hcvY z hz o ho]; omega
            · obtain ⟨e5, p, v, e6, e7⟩ := (g2.reads i).1 e3
              refine ⟨p, v, by dsimp only; rw [hU u e]; exact e7, ?_⟩
              obtain ⟨z, rfl, hz⟩ := nums_mem (h.dom p i e6)
              have hle := g2.le z v e7
              rcases (ht.over z i e6).1 e4 with ⟨o, ho⟩ | ⟨e8, e9⟩
              · rw [hcvY z hz o ho]; omega
              · exfalso
                unfold Com at e5
                rw [e8, ccnt_open hd] at e5
                omega
          · dsimp only at e3
            rw [hU u e] at e3
            obtain ⟨i, e7, e8⟩ := g2.recN p v e3
            obtain ⟨z, rfl, hz⟩ := nums_mem (h.dom p i e7)
            cases ho : (c.tx t).own (z : Int) with
            | none => rw [(hcvN z hz ho).1] at e4; exact .inl (g2.stale.2 ⟨z, v, e3, e4⟩)
            | some o =>
              have e9 := (ht.over z i e7).2 (.inl ⟨o, ho⟩)
              refine .inr ⟨i, (g2.reads i).2 ⟨?_, z, v, e7, e3⟩, e9⟩
              obtain ⟨vs, hvs⟩ := Option.isSome_iff_exists.1 e9
              rcases e8 with e8 | e8
              · exact e8
              · rcases wd.overK i vs hvs with e10 | e10
                · exact e10
                · exact absurd (e8.symm.trans e10.1) e
          · dsimp only at e3
            rw [hU u e] at e3
            obtain ⟨i, e7, _⟩ := g2.recN p v e3
            obtain ⟨z, rfl, hz⟩ := nums_mem (h.dom p i e7)
            have hle := g2.le z v e3
            cases ho : (c.tx t).own (z : Int) with
            | none => rw [(hcvN z hz ho).1]; exact hle
            | some o => rw [hcvY z hz o ho]; omega
  · obtain ⟨z, rfl, hz⟩ := nums_mem (h.dom p i hp)
    show VRL nm _ ((d.over i).getD (s.store i))
    cases ho : d.over i with
    | some vs =>
      have hf := hfree z (fun u e => by
        cases hx : (c.tx u).own (z : Int) with
        | none => rfl
        | some o' =>
          obtain ⟨d', hd', ht'⟩ := h.openA (hi.openOwn hx)
          have e1 := (ht'.over z i hp).2 (.inl ⟨o', hx⟩)
          have := w.excl u t d' d e hd' hd i e1
          rw [ho] at this
          cases this)
      rw [(cver_free hf).2]
      have := ht.overV z i vs hp ho
      dsimp only
      rw [Int.toNat_natCast] at this ⊢
      rw [hvals z hz]
      exact this
    | none =>
      have hn : (c.tx t).own (z : Int) = none := by
        cases hx : (c.tx t).own (z : Int) with
        | none => rfl
        | some o' =>
          have e1 := (ht.over z i hp).2 (.inl ⟨o', hx⟩)
          rw [ho] at e1
          cases e1
      rw [(hcvN z hz hn).2]
      refine h.store z i hp ?_
      rcases hback i hC with e | ⟨e1, e2, e3⟩
      · exact e
      · exfalso
        obtain ⟨i1, i2⟩ := i
        dsimp only at e1 e2 e3
        subst e1
        have := wd.fresh i2 e2 e3
        rw [ho] at this
        cases this
end Go.Proofs.Ytpdcaoagpjcgbab

