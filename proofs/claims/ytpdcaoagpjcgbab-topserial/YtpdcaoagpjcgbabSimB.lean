/-
  Plain mathematics: the machine with addresses does what the threads without addresses do: new objects. No program is named here. It proves no statement by itself.
-/
import Derived.Test.YtpdcaoagpjcgbabSimA
import Derived.Test.YtpdcaoagpjcgbabFreeA
set_option linter.unusedVariables false
set_option linter.unusedSimpArgs false
namespace Go.Proofs.Ytpdcaoagpjcgbab
open Stm

theorem Inv.keyIn {c : Mc} {l : List Nat} {k : Nat} (h : Inv c l k) {t : Nat} {p : Int} (hp : p ∉ nums l) : (c.tx t).own p = none ∧ (c.tx t).recd p = none := by
  constructor
  · cases e : (c.tx t).own p with
    | none => rfl
    | some o => exact absurd (h.sub (h.own t p o e).1) hp
  · cases e : (c.tx t).recd p with
    | none => rfl
    | some o => exact absurd (h.sub (h.recd t p o e).1) hp

theorem Sim.new {c : Mc} {l : List Nat} {k k' : Nat} {s : AS} {nm : Int → Option Stm.Id} (h : Sim c l s nm) (w : Wf s) (hi : Inv c l k) {t A T f : Nat} {d : ATx} (hd : (s.th t).tx = some d) (hT : c.top = (T : Int)) (hfit : T + 2 + f ≤ c.xs.length)
    (hi' : Inv ⟨c.xs.set (T + 1) f, (T : Int) + (2 + f), upd c.regs t (upd (c.regs t) A ⟨1, T⟩), c.tx, c.coll⟩ (l ++ [T]) k') :
    Sim ⟨c.xs.set (T + 1) f, (T : Int) + (2 + f), upd c.regs t (upd (c.regs t) A ⟨1, T⟩), c.tx, c.coll⟩ (l ++ [T]) (setTh s t (newT t (s.th t) d A f)) (setAt nm T (some (t, (s.th t).cnt))) := by
  obtain ⟨hop, ht⟩ := (h.th t).opened d hd
  have wd := (w.th t).tx d hd
  have hlt : ∀ q ∈ l, q + 2 + lenAt c.xs q ≤ T := fun q hq => by have := (hi.place hq).2.2.2.2; rw [hT] at this; simpa using this
  have hTl : (T : Int) ∉ nums l := fun hh => by have := hlt T (mem_nums.1 hh); omega
  have hne : ∀ p i, nm p = some i → p ≠ (T : Int) := fun p i hp e => hTl (e ▸ h.dom p i hp)
  have hfresh : ∀ p i, nm p = some i → i ≠ (t, (s.th t).cnt) := fun p i hp e => by
    subst e
    have := h.known p _ hp
    dsimp only at this
    omega
  have hext : ∀ p i, nm p = some i → setAt nm T (some (t, (s.th t).cnt)) p = some i := fun p i hp => by rw [setAt_other _ _ (hne p i hp)]; exact hp
  have hnm : ∀ p i, setAt nm T (some (t, (s.th t).cnt)) p = some i → (p = (T : Int) ∧ i = (t, (s.th t).cnt)) ∨ nm p = some i := fun p i hp => by
    by_cases e : p = (T : Int)
    · subst e
      rw [setAt_same] at hp
      exact .inl ⟨rfl, (Option.some.inj hp).symm⟩
    · rw [setAt_other _ _ e] at hp; exact .inr hp
  have hsame : ∀ j, j ≠ T + 1 → (c.xs.set (T + 1) (f : Int)).getD j 0 = c.xs.getD j 0 := fun j hj => Lw.getD_set_ne (Ne.symm hj)
  have hvals : ∀ q ∈ l, valsAt (c.xs.set (T + 1) (f : Int)) q = valsAt c.xs q := fun q hq => by
    have := hlt q hq
    exact valsAt_ext (by simp) (hi.place hq).2.1 (hsame _ (by omega)) (fun j hj => hsame _ (by omega))
  have hcv : ∀ q ∈ l, cver ⟨c.xs.set (T + 1) f, (T : Int) + (2 + f), upd c.regs t (upd (c.regs t) A ⟨1, T⟩), c.tx, c.coll⟩ (q : Int) = cver c q ∧ cont ⟨c.xs.set (T + 1) f, (T : Int) + (2 + f), upd c.regs t (upd (c.regs t) A ⟨1, T⟩), c.tx, c.coll⟩ (q : Int) = cont c q := fun q hq => by
    have := hlt q hq
    exact hi.cver_same hi' (fun _ => rfl) (by dsimp only; rw [Int.toNat_natCast]; exact hsame _ (by omega)) (fun _ => by dsimp only; rw [Int.toNat_natCast]; exact hvals q hq)
  have hnewV : VRL (setAt nm T (some (t, (s.th t).cnt))) (valsAt (c.xs.set (T + 1) (f : Int)) T) (List.replicate f (.inl 0)) := by
    have hTm : T ∈ l ++ [T] := by simp
    have hlen : lenAt (c.xs.set (T + 1) (f : Int)) T = f := by unfold lenAt; rw [Lw.getD_set_eq (by omega)]; omega
    refine VRL.of ?_ (fun j hj => ?_)
    · have := valsAt_length hi' hTm
      dsimp only at this
      rw [this, hlen, List.length_replicate]
    · rw [List.length_replicate] at hj
      have := valsAt_getD hi' hTm (j := j) (by dsimp only; omega)
      dsimp only at this
      rw [this, hsame _ (by omega), hi.valid.rest (T + 2 + j) (by rw [hT]; simp; omega) (by omega)]
      have e : (List.replicate f (.inl 0 : AV)).getD j (.inl 0) = .inl 0 := by rw [List.getD_eq_getElem?_getD, List.getElem?_replicate]; split <;> rfl
      rw [e]
      exact VR.zero _
  have hcc : ccnt (newT t (s.th t) d A f) = ccnt (s.th t) := by rw [ccnt_open hd]; rfl
  have hrecV : ∀ u p v, (c.tx u).recd p = some v → ∃ z : Nat, p = z ∧ z ∈ l := fun u p v e => nums_mem (hi.sub (hi.recd u p v e).1)
  -- what every open transaction keeps
  have core : ∀ u d0, (s.th u).tx = some d0 → TxR c nm (Com s) u d0 → (∀ r, VR (setAt nm T (some (t, (s.th t).cnt))) ((c.tx u).saved r) (d0.saved r)) ∧ (∀ p v, (c.tx u).recd p = some v → ∃ i, setAt nm T (some (t, (s.th t).cnt)) p = some i ∧ (Com s i ∨ i.1 = u)) ∧ (∀ p o, (c.tx u).own p = some o → ∃ i, setAt nm T (some (t, (s.th t).cnt)) p = some i) ∧
      (∀ i, d0.reads i ↔ Com s i ∧ ∃ p v, setAt nm T (some (t, (s.th t).cnt)) p = some i ∧ (c.tx u).recd p = some v) ∧ (d0.stale ↔ ∃ p v, (c.tx u).recd p = some v ∧ cver ⟨c.xs.set (T + 1) f, (T : Int) + (2 + f), upd c.regs t (upd (c.regs t) A ⟨1, T⟩), c.tx, c.coll⟩ p ≠ v) ∧
      (∀ p v, (c.tx u).recd p = some v → v ≤ cver ⟨c.xs.set (T + 1) f, (T : Int) + (2 + f), upd c.regs t (upd (c.regs t) A ⟨1, T⟩), c.tx, c.coll⟩ p) := fun u d0 hd0 g => by
    refine ⟨fun r => (g.saved r).mono fun i _ e => hext _ i e, fun p v e => ?_, fun p o e => ?_, fun i => ⟨fun e => ?_, fun ⟨e1, p, v, e2, e3⟩ => ?_⟩, ⟨fun e => ?_, fun ⟨p, v, e1, e2⟩ => ?_⟩, fun p v e => ?_⟩
    · obtain ⟨i, e1, e2⟩ := g.recN p v e; exact ⟨i, hext p i e1, e2⟩
    · obtain ⟨i, e1⟩ := g.ownN p o e; exact ⟨i, hext p i e1⟩
    · obtain ⟨e1, p, v, e2, e3⟩ := (g.reads i).1 e
      exact ⟨e1, p, v, hext p i e2, e3⟩
    · rcases hnm p i e2 with ⟨e4, _⟩ | e4
      · rw [e4, (hi.keyIn hTl).2] at e3; cases e3
      · exact (g.reads i).2 ⟨e1, p, v, e4, e3⟩
    · obtain ⟨p, v, e1, e2⟩ := g.stale.1 e
      obtain ⟨z, rfl, hz⟩ := hrecV u p v e1
      exact ⟨z, v, e1, by rw [(hcv z hz).1]; exact e2⟩
    · obtain ⟨z, rfl, hz⟩ := hrecV u p v e1
      rw [(hcv z hz).1] at e2
      exact g.stale.2 ⟨z, v, e1, e2⟩
    · obtain ⟨z, rfl, hz⟩ := hrecV u p v e
      rw [(hcv z hz).1]
      exact g.le z v e
  have hvalN : ∀ p i vs, nm p = some i → VRL nm (valsAt c.xs p.toNat) vs → VRL (setAt nm T (some (t, (s.th t).cnt))) (valsAt (c.xs.set (T + 1) (f : Int)) p.toNat) vs := fun p i vs hp hv => by
    obtain ⟨z, rfl, hz⟩ := nums_mem (h.dom p i hp)
    rw [Int.toNat_natCast] at hv ⊢
    rw [hvals z hz]
    exact hv.mono fun p j _ e => hext p j e
  refine ⟨fun p i hp => ?_, fun p q i hp hq => ?_, fun p i hp => ?_, fun u => ?_, fun p i hp hC => ?_⟩
  · rw [nums_append]
    rcases hnm p i hp with ⟨rfl, _⟩ | hp
    · simp [nums]
    · exact List.mem_append.2 (.inl (h.dom p i hp))
  · rcases hnm p i hp with ⟨rfl, e1⟩ | hp
    · rcases hnm q i hq with ⟨rfl, _⟩ | hq
      · rfl
      · exact absurd e1 (hfresh q i hq)
    · rcases hnm q i hq with ⟨rfl, e1⟩ | hq
      · exact absurd e1 (hfresh p i hp)
      · exact h.inj p q i hp hq
  · rcases hnm p i hp with ⟨rfl, rfl⟩ | hp
    · show (s.th t).cnt < _
      rw [setTh_th]
      exact Nat.lt_succ_self _
    · have := h.known p i hp
      by_cases e : i.1 = t
      · rw [e, setTh_th]
        rw [e] at this
        exact Nat.lt_succ_of_lt this
      · rw [setTh_other _ _ e]; exact this
  · rw [com_setTh hcc]
    by_cases e : u = t
    · subst e
      rw [setTh_th]
      refine ⟨fun r => ?_, fun e => (by cases e), fun d' e => ?_⟩
      · show VR _ (upd c.regs u (upd (c.regs u) A ⟨1, T⟩) u r) (upd (s.th u).regs A (.inr (u, (s.th u).cnt)) r)
        rw [upd_same]
        by_cases e : r = A
        · subst e
          rw [upd_same, upd_same]
          exact ⟨rfl, setAt_same _ _ _⟩
        · rw [upd_other _ _ e, upd_other _ _ e]
          exact ((h.th u).regs r).mono fun i _ e => hext _ i e
      · injection e with e
        subst e
        obtain ⟨k1, k2, k3, k4, k5, k6⟩ := core u d hd ht
        refine ⟨hop, ⟨k1, k2, k3, k4, fun p i hp => ?_, fun p i vs hp hvs => ?_, k5, k6⟩⟩
        · show (updI d.over (u, (s.th u).cnt) _ i).isSome = true ↔ _
          rcases hnm p i hp with ⟨rfl, rfl⟩ | hp
          · rw [updI_same]
            exact ⟨fun _ => .inr ⟨rfl, wd.cnt⟩, fun _ => rfl⟩
          · rw [updI_other _ _ (hfresh p i hp)]
            exact ht.over p i hp
        · have hvs' : updI d.over (u, (s.th u).cnt) (some (List.replicate f (.inl 0))) i = some vs := hvs
          rcases hnm p i hp with ⟨rfl, rfl⟩ | hp
          · rw [updI_same] at hvs'
            injection hvs' with hvs'
            subst hvs'
            rw [Int.toNat_natCast]
            exact hnewV
          · rw [updI_other _ _ (hfresh p i hp)] at hvs'
            exact hvalN p i vs hp (ht.overV p i vs hp hvs')
    · rw [setTh_other _ _ e]
      refine ⟨fun r => ?_, (h.th u).shut, fun d' e1 => ?_⟩
      · show VR _ (upd c.regs t (upd (c.regs t) A ⟨1, T⟩) u r) _
        rw [upd_other _ _ e]
        exact ((h.th u).regs r).mono fun i _ e => hext _ i e
      · obtain ⟨g1, g2⟩ := (h.th u).opened d' e1
        obtain ⟨k1, k2, k3, k4, k5, k6⟩ := core u d' e1 g2
        have hno : d'.over (t, (s.th t).cnt) = none := by
          cases e2 : d'.over (t, (s.th t).cnt) with
          | none => rfl
          | some vs =>
            rcases ((w.th u).tx d' e1).overK _ vs e2 with e3 | e3
            · exact absurd e3 (w.notCom hd)
            · exact absurd e3.1.symm e
        refine ⟨g1, ⟨k1, k2, k3, k4, fun p i hp => ?_, fun p i vs hp hvs => ?_, k5, k6⟩⟩
        · rcases hnm p i hp with ⟨rfl, rfl⟩ | hp
          · rw [hno]
            refine ⟨fun e => (by cases e), fun e2 => ?_⟩
            rcases e2 with ⟨o, e2⟩ | ⟨e2, _⟩
            · have e2' : (c.tx u).own (T : Int) = some o := e2
              rw [(hi.keyIn hTl).1] at e2'; cases e2'
            · exact absurd e2.symm e
          · exact g2.over p i hp
        · rcases hnm p i hp with ⟨rfl, rfl⟩ | hp
          · rw [hno] at hvs; cases hvs
          · exact hvalN p i vs hp (g2.overV p i vs hp hvs)
  · rw [com_setTh hcc] at hC
    rcases hnm p i hp with ⟨rfl, rfl⟩ | hp
    · exact absurd hC (w.notCom hd)
    · obtain ⟨z, rfl, hz⟩ := nums_mem (h.dom p i hp)
      rw [(hcv z hz).2]
      exact (h.store z i hp hC).mono fun p j _ e => hext p j e
end Go.Proofs.Ytpdcaoagpjcgbab

/-
  Plain mathematics: the machine with addresses does what the threads without addresses do: the end of a collection changes nothing for the threads. No program is named here. It proves no statement by itself.
-/
namespace Go.Proofs.Ytpdcaoagpjcgbab
open Stm

theorem valOf_redir (m : Int → Option Int) (y : Int) : Stm.valOf (redir m y) = mvV m (Stm.valOf y) := by
  unfold redir Stm.valOf mvV mvN
  by_cases e : y % 2 = 1
  · rw [if_pos e, if_pos e, if_pos (by omega), if_pos rfl]
    dsimp only
    generalize (m (y / 2)).getD 0 = z
    congr 1
    omega
  · rw [if_neg e, if_neg e]
    rfl

theorem getD_mapV (m : Int → Option Int) (vs : List Val) (j : Nat) : (vs.map (mvV m)).getD j .zero = mvV m (vs.getD j .zero) := by
  rw [List.getD_eq_getElem?_getD, List.getElem?_map, List.getD_eq_getElem?_getD]
  cases vs[j]? with
  | none => rfl
  | some v => rfl

theorem Sim.finish {c c' : Mc} {l l' : List Nat} {k k' : Nat} {s : AS} {nm : Int → Option Stm.Id} {f : Int} (h : Sim c l s nm) (hi : Inv c l k) (hg : c.coll.going = true) (hf : CFinish c l f c') (hi' : Inv c' l' k') : ∃ nm', Sim c' l' s nm' := by
  obtain ⟨qs, m, tx', hkq, hd, htx, _, rfl⟩ := hf
  obtain ⟨qs', hkq', hkept, hclosed⟩ := hi.kept hg
  obtain rfl := nums_inj (hkq.symm.trans hkq')
  have hv := hi.valid
  have hroom := Room.of hv.objects hkept
  have v1 := hv.top1
  have v2 := hv.top2
  have v3 := hv.len2
  have hle : c.top.toNat ≤ c.xs.length := by omega
  have hvb := valid_built hv hkept hd hclosed rfl
  obtain rfl : l' = destOf c.xs qs := hi'.valid.unique hvb
  have hto : ∀ i, i < qs.length → (toAt c.xs qs i : Nat) ∈ destOf c.xs qs := fun i hi => mem_destOf.2 ⟨i, hi, rfl⟩
  have hmv : ∀ p, p ∈ keepL c l → ∃ i, i < qs.length ∧ p = (qs.getD i 0 : Nat) ∧ mvN m p = (toAt c.xs qs i : Nat) := fun p hp => by
    rw [hkq] at hp
    obtain ⟨i, hi, e⟩ := mem_at.1 hp
    rw [nums_length] at hi
    rw [nums_getD] at e
    refine ⟨i, hi, e.symm, ?_⟩
    unfold mvN
    rw [← e, hd.new i hi]
    rfl
  have hinj : ∀ p q, p ∈ keepL c l → q ∈ keepL c l → mvN m p = mvN m q → p = q := fun p q hp hq e => by
    obtain ⟨i, h1, h2, h3⟩ := hmv p hp
    obtain ⟨j, g1, g2, g3⟩ := hmv q hq
    rw [h3, g3] at e
    have e' : toAt c.xs qs i = toAt c.xs qs j := by omega
    have : i = j := by
      rcases Nat.lt_trichotomy i j with h4 | h4 | h4
      · have := toAt_mono (xs := c.xs) h4 g1; omega
      · exact h4
      · have := toAt_mono (xs := c.xs) h4 h1; omega
    rw [h2, g2, this]
  obtain ⟨nm', hnm⟩ : ∃ nm' : Int → Option Stm.Id, ∀ q i, nm' q = some i ↔ ∃ p, p ∈ keepL c l ∧ mvN m p = q ∧ nm p = some i := by
    classical
    refine ⟨fun q => if hh : ∃ i p, p ∈ keepL c l ∧ mvN m p = q ∧ nm p = some i then some hh.choose else none, fun q i => ?_⟩
    dsimp only
    constructor
    · intro e
      split at e
      · rename_i hh
        injection e with e
        rw [← e]
        exact hh.choose_spec
      · cases e
    · intro hp
      have hh : ∃ i p, p ∈ keepL c l ∧ mvN m p = q ∧ nm p = some i := ⟨i, hp⟩
      rw [dif_pos hh]
      obtain ⟨p, h1, h2, h3⟩ := hp
      obtain ⟨p', g1, g2, g3⟩ := hh.choose_spec
      have := hinj p p' h1 g1 (h2.trans g2.symm)
      subst this
      rw [h3] at g3
      exact g3.symm
  have hext : ∀ p i, p ∈ keepL c l → nm p = some i → nm' (mvN m p) = some i := fun p i h1 h2 => (hnm _ i).2 ⟨p, h1, rfl, h2⟩
  have hVR : ∀ v a, ValIn (keepL c l) v → VR nm v a → VR nm' (mvV m v) a := fun v a h1 h2 => by
    unfold mvV
    cases a with
    | inl z => rw [if_neg (by rw [h2.1]; decide)]; exact h2
    | inr i =>
      rw [if_pos h2.1]
      refine ⟨rfl, hext _ i ?_ h2.2⟩
      rcases h1 with ⟨h3, _⟩ | ⟨_, h3⟩
      · rw [h2.1] at h3; cases h3
      · exact h3
  have hVRL : ∀ vs zs, (∀ v ∈ vs, ValIn (keepL c l) v) → VRL nm vs zs → VRL nm' (vs.map (mvV m)) zs := fun vs zs h1 h2 => by
    refine ⟨by rw [List.length_map]; exact h2.1, fun j => ?_⟩
    rw [getD_mapV]
    rcases Nat.lt_or_ge j vs.length with hj | hj
    · exact hVR _ _ (h1 _ (by rw [val_getD hj]; exact List.getElem_mem _)) (h2.2 j)
    · have e : vs.getD j .zero = .zero := by rw [List.getD_eq_getElem?_getD, List.getElem?_eq_none hj]; rfl
      exact hVR _ _ (by rw [e]; exact ValIn.zero _) (h2.2 j)
  have hvals : ∀ i, i < qs.length → valsAt (built c.xs.length c.xs m qs qs.length) (toAt c.xs qs i) = (valsAt c.xs (qs.getD i 0)).map (mvV m) := fun i hil => by
    have hq := hkept.sub _ (getD_mem hil)
    have hll := hroom.lenAt_built hle c.xs.length m hil
    have hl1 := valsAt_length hi' (hto i hil)
    dsimp only at hl1
    have hl2 := valsAt_length hi hq
    refine List.ext_getElem (by rw [hl1, List.length_map, hl2, hll]) fun j g1 g2 => ?_
    rw [← val_getD g1, ← val_getD g2, getD_mapV]
    have hj : j < lenAt c.xs (qs.getD i 0) := by rw [← hll, ← hl1]; exact g1
    have e1 := valsAt_getD hi' (hto i hil) (j := j) (by dsimp only; rw [hll]; exact hj)
    dsimp only at e1
    rw [e1, hroom.built_field hle _ m hil hj, valOf_redir, valsAt_getD hi hq hj]
  have hvIn : ∀ p, p ∈ keepL c l → ∀ v ∈ valsAt c.xs p.toNat, ValIn (keepL c l) v := fun p hp v hv => by
    obtain ⟨q, rfl, hq⟩ := nums_mem (hi.sub hp)
    rw [Int.toNat_natCast] at hv
    obtain ⟨j, hj, rfl⟩ := mem_valsAt hi hq hv
    exact hi.fieldVal hq hp (by have := (hi.place hq).2.2.2.1; omega)
  have hownF : ∀ u p o, p ∈ keepL c l → (c.tx u).own p = some o → (tx' u).own (mvN m p) = some ⟨o.ver, o.fields.map (mvV m)⟩ := fun u p o _ e => ((htx u).own _ _).2 ⟨p, o, e, rfl, rfl⟩
  have hownB : ∀ u p o, p ∈ keepL c l → (tx' u).own (mvN m p) = some o → ∃ o0, (c.tx u).own p = some o0 := fun u p o hp e => by
    obtain ⟨p0, o0, h1, h2, _⟩ := ((htx u).own _ _).1 e
    have := hinj p0 p (hi.own u p0 o0 h1).1 hp h2
    subst this
    exact ⟨o0, h1⟩
  have hrecF : ∀ u p v, (c.tx u).recd p = some v → (tx' u).recd (mvN m p) = some v := fun u p v e => ((htx u).recd _ _).2 ⟨p, v, e, rfl, rfl⟩
  have hrecB : ∀ u q v, (tx' u).recd q = some v → ∃ p, p ∈ keepL c l ∧ mvN m p = q ∧ (c.tx u).recd p = some v := fun u q v e => by
    obtain ⟨p0, v0, h1, h2, h3⟩ := ((htx u).recd _ _).1 e
    have h3' : v0 = v := h3
    subst h3'
    exact ⟨p0, (hi.recd u p0 v0 h1).1, h2, h1⟩
  have hcv : ∀ p, p ∈ keepL c l → cver ⟨built c.xs.length c.xs m qs qs.length, (toAt c.xs qs qs.length : Nat), fun t r => mvV m (c.regs t r), tx', .zero⟩ (mvN m p) = cver c p ∧ cont ⟨built c.xs.length c.xs m qs qs.length, (toAt c.xs qs qs.length : Nat), fun t r => mvV m (c.regs t r), tx', .zero⟩ (mvN m p) = (cont c p).map (mvV m) := fun p hp => by
    rcases owned_or c p with ⟨u, o, e⟩ | e
    · have e' := hownF u p o hp e
      rw [(hi.cver_own e).1, (hi.cver_own e).2, (hi'.cver_own (t := u) e').1, (hi'.cver_own (t := u) e').2]
      exact ⟨rfl, rfl⟩
    · have e' : ∀ u, ((⟨built c.xs.length c.xs m qs qs.length, (toAt c.xs qs qs.length : Nat), fun t r => mvV m (c.regs t r), tx', .zero⟩ : Mc).tx u).own (mvN m p) = none := fun u => by
        dsimp only
        cases hx : (tx' u).own (mvN m p) with
        | none => rfl
        | some o => obtain ⟨o0, h0⟩ := hownB u p o hp hx; rw [e u] at h0; cases h0
      rw [(cver_free e).1, (cver_free e).2, (cver_free e').1, (cver_free e').2]
      obtain ⟨i, h1, h2, h3⟩ := hmv p hp
      dsimp only
      rw [h3, h2, Int.toNat_natCast, Int.toNat_natCast, hroom.built_state hle _ m h1, hvals i h1]
      exact ⟨rfl, rfl⟩
  refine ⟨nm', fun q i hq => ?_, fun p q i hp hq => ?_, fun q i hq => ?_, fun u => ?_, fun q i hq hC => ?_⟩
  · obtain ⟨p, h1, rfl, _⟩ := (hnm q i).1 hq
    obtain ⟨j, g1, _, g3⟩ := hmv p h1
    rw [g3]
    exact mem_nums.2 (hto j g1)
  · obtain ⟨p0, _, rfl, h3⟩ := (hnm _ i).1 hp
    obtain ⟨q0, _, rfl, g3⟩ := (hnm _ i).1 hq
    rw [h.inj p0 q0 i h3 g3]
  · obtain ⟨p, _, _, h3⟩ := (hnm q i).1 hq
    exact h.known p i h3
  · have hth := h.th u
    refine ⟨fun r => hVR _ _ (hi.regs u r) (hth.regs r), fun e => ?_, fun d e => ?_⟩
    · dsimp only; rw [(htx u).isOpen]; exact hth.shut e
    · obtain ⟨g1, g2⟩ := hth.opened d e
      refine ⟨by dsimp only; rw [(htx u).isOpen]; exact g1, ⟨fun r => ?_, fun q v e1 => ?_, fun q o e1 => ?_, fun i => ⟨fun e1 => ?_, fun ⟨e1, q, v, e2, e3⟩ => ?_⟩, fun q i hq => ?_, fun q i vs hq hvs => ?_, ⟨fun e1 => ?_, fun ⟨q, v, e1, e2⟩ => ?_⟩, fun q v e1 => ?_⟩⟩
      · dsimp only; rw [(htx u).saved r]; exact hVR _ _ (hi.saved u r) (g2.saved r)
      · obtain ⟨p, h1, rfl, h2⟩ := hrecB u q v e1
        obtain ⟨i, h3, h4⟩ := g2.recN p v h2
        exact ⟨i, hext p i h1 h3, h4⟩
      · obtain ⟨p0, o0, h1, rfl, _⟩ := ((htx u).own _ _).1 e1
        obtain ⟨i, h3⟩ := g2.ownN p0 o0 h1
        exact ⟨i, hext p0 i (hi.own u p0 o0 h1).1 h3⟩
      · obtain ⟨e2, p, v, e3, e4⟩ := (g2.reads i).1 e1
        exact ⟨e2, mvN m p, v, hext p i (hi.recd u p v e4).1 e3, hrecF u p v e4⟩
      · obtain ⟨p, h1, h2, h3⟩ := (hnm q i).1 e2
        obtain ⟨p0, h4, h5, h6⟩ := hrecB u q v e3
        have := hinj p0 p h4 h1 (h5.trans h2.symm)
        subst this
        exact (g2.reads i).2 ⟨e1, p0, v, h3, h6⟩
      · obtain ⟨p, h1, rfl, h3⟩ := (hnm q i).1 hq
        rw [g2.over p i h3]
        constructor
        · rintro (⟨o, e1⟩ | e1)
          · exact .inl ⟨_, hownF u p o h1 e1⟩
          · exact .inr e1
        · rintro (⟨o, e1⟩ | e1)
          · exact .inl (hownB u p o h1 e1)
          · exact .inr e1
      · obtain ⟨p, h1, rfl, h3⟩ := (hnm q i).1 hq
        obtain ⟨j, k1, k2, k3⟩ := hmv p h1
        have h4 := hVRL _ _ (hvIn p h1) (g2.overV p i vs h3 hvs)
        dsimp only
        rw [k3, Int.toNat_natCast, hvals j k1]
        rw [k2, Int.toNat_natCast] at h4
        exact h4
      · obtain ⟨p, v, e2, e3⟩ := g2.stale.1 e1
        exact ⟨mvN m p, v, hrecF u p v e2, by rw [(hcv p (hi.recd u p v e2).1).1]; exact e3⟩
      · obtain ⟨p, h1, rfl, h2⟩ := hrecB u q v e1
        rw [(hcv p h1).1] at e2
        exact g2.stale.2 ⟨p, v, h2, e2⟩
      · obtain ⟨p, h1, rfl, h2⟩ := hrecB u q v e1
        rw [(hcv p h1).1]
        exact g2.le p v h2
  · obtain ⟨p, h1, rfl, h3⟩ := (hnm q i).1 hq
    rw [(hcv p h1).2]
    refine hVRL _ _ (fun v hv => ?_) (h.store p i h3 hC)
    rcases owned_or c p with ⟨u, o, e⟩ | e
    · rw [(hi.cver_own e).2] at hv
      exact hi.fields u p o e v hv
    · rw [(cver_free e).2] at hv
      exact hvIn p h1 v hv
end Go.Proofs.Ytpdcaoagpjcgbab

/-
  Plain mathematics: the machine with addresses answers as the threads without addresses do, for a whole script. No program is named here. It proves no statement by itself.
-/
namespace Go.Proofs.Ytpdcaoagpjcgbab
open Stm

section
variable {s s' : AS} {a : Stm.Act} {r : Ans}
theorem stepA1 (h0 : firstErr a = 0) (hk : a.kind = 1) (h : BeginA s a.t.toNat r s') : StepA s a r s' := Ite.pos h0 (Ite.pos hk h)
theorem stepA2 (h0 : firstErr a = 0) (hk : a.kind = 2) (h : CommitA s a.t.toNat r s') : StepA s a r s' := Ite.pos h0 (Ite.neg (by omega) (Ite.pos hk h))
theorem stepA3 (h0 : firstErr a = 0) (hk : a.kind = 3) (h : AbortA s a.t.toNat r s') : StepA s a r s' := Ite.pos h0 (Ite.neg (by omega) (Ite.neg (by omega) (Ite.pos hk h)))
theorem stepA4 (h0 : firstErr a = 0) (hk : a.kind = 4) (h : NewA s a.t.toNat a.a.toNat a.n r s') : StepA s a r s' := Ite.pos h0 (Ite.neg (by omega) (Ite.neg (by omega) (Ite.neg (by omega) (Ite.pos hk h))))
theorem stepA5 (h0 : firstErr a = 0) (hk : a.kind = 5) (h : GetA s a.t.toNat a.a.toNat a.b.toNat a.n r s') : StepA s a r s' := Ite.pos h0 (Ite.neg (by omega) (Ite.neg (by omega) (Ite.neg (by omega) (Ite.neg (by omega) (Ite.pos hk h)))))
theorem stepA6 (h0 : firstErr a = 0) (hk : a.kind = 6) (h : PutA s a.t.toNat a.a.toNat a.b.toNat a.n r s') : StepA s a r s' := Ite.pos h0 (Ite.neg (by omega) (Ite.neg (by omega) (Ite.neg (by omega) (Ite.neg (by omega) (Ite.neg (by omega) (Ite.pos hk h))))))
theorem stepA7 (h0 : firstErr a = 0) (hk : a.kind = 7) (h : SetA s a.t.toNat a.a.toNat a.n r s') : StepA s a r s' := Ite.pos h0 (Ite.neg (by omega) (Ite.neg (by omega) (Ite.neg (by omega) (Ite.neg (by omega) (Ite.neg (by omega) (Ite.neg (by omega) (Ite.pos hk h)))))))
theorem stepA8 (h0 : firstErr a = 0) (hk : a.kind = 8) (h : CopyA s a.t.toNat a.a.toNat a.b.toNat a.n.toNat r s') : StepA s a r s' := Ite.pos h0 (Ite.neg (by omega) (Ite.neg (by omega) (Ite.neg (by omega) (Ite.neg (by omega) (Ite.neg (by omega) (Ite.neg (by omega) (Ite.neg (by omega) (Ite.pos hk h))))))))
theorem stepA9 (h0 : firstErr a = 0) (hk : a.kind = 9) (h : SameA s a.t.toNat a.a.toNat a.b.toNat r s') : StepA s a r s' := Ite.pos h0 (Ite.neg (by omega) (Ite.neg (by omega) (Ite.neg (by omega) (Ite.neg (by omega) (Ite.neg (by omega) (Ite.neg (by omega) (Ite.neg (by omega) (Ite.neg (by omega) (Ite.pos hk h)))))))))
end

/-- The way to an object. -/
theorem Sim.acc {c c' : Mc} {l : List Nat} {k : Nat} {s : AS} {nm : Int → Option Stm.Id} (h : Sim c l s nm) (w : Wf s) (hi : Inv c l k) (hk : k ≤ 400) {t B : Nat} {n : Int} {r : Ans} {good : Prop} {gA : AS → ATx → Stm.Id → Prop} (ha : CAcc c l t (c.regs t B) n r c' good)
    (hgood : ∀ (d : ATx) (i : Stm.Id) (q : Nat), (c.tx t).isOpen = true → (s.th t).tx = some d → (s.th t).regs B = .inr i → (c.regs t B).n = (q : Int) → nm (q : Int) = some i → VisT (Com s) t (s.th t) i → q ∈ l → ¬ Busy s t i → ¬ Owned c.xs t q → 0 ≤ n → n < c.xs.getD (q + 1) 0 → good → ∃ s' nm', gA s' d i ∧ Sim c' l s' nm') :
    ∃ s' nm', AccA s t ((s.th t).regs B) n r s' (gA s') ∧ Sim c' l s' nm' := by
  have hvr := (h.th t).regs B
  by_cases h1 : (c.tx t).isOpen = true
  · have ha := ha.yes h1
    obtain ⟨d, hd, ht⟩ := h.openA h1
    cases hav : (s.th t).regs B with
    | inl z =>
      rw [hav] at hvr
      obtain ⟨hr, rfl⟩ := ha.no (fun h2 => by rw [hvr.1] at h2; cases h2.1)
      refine ⟨s, nm, ?_, h⟩
      unfold AccA
      rw [hd]
      exact ⟨hr, rfl⟩
    | inr i =>
      rw [hav] at hvr
      have hvis := (w.th t).regs B i hav
      obtain ⟨q, hq, hql⟩ := nums_mem (h.dom _ i hvr.2)
      have hpl := hi.place hql
      have ha := ha.yes ⟨hvr.1, by rw [hq]; omega⟩
      have hnq : nm (q : Int) = some i := by rw [← hq]; exact hvr.2
      have hlen := h.viewLen w hi hd hnq hvis
      rw [hq, Int.toNat_natCast] at ha
      have hbo := h.busy hi (t := t) hnq (hvis.imp id And.left)
      by_cases h3 : 0 ≤ n ∧ n < c.xs.getD (q + 1) 0
      · have ha := ha.yes ⟨mem_nums.2 hql, h3⟩
        by_cases h4 : Owned c.xs t q
        · obtain ⟨hr, hu⟩ := ha.yes h4
          obtain ⟨nm', hs'⟩ := h.undo w hi hk hd hu
          refine ⟨_, nm', ?_, hs'⟩
          unfold AccA
          rw [hd]
          exact Ite.pos (by rw [hlen]; exact h3) (Ite.pos (hbo.1 h4) ⟨hr, rfl⟩)
        · have ha := ha.no h4
          have hnb : ¬ Busy s t i := fun hb => h4 (hbo.2 hb)
          obtain ⟨s', nm', g1, g2⟩ := hgood d i q h1 hd hav hq hnq hvis hql hnb h4 h3.1 h3.2 ha
          refine ⟨s', nm', ?_, g2⟩
          unfold AccA
          rw [hd]
          exact Ite.pos (by rw [hlen]; exact h3) (Ite.neg hnb g1)
      · obtain ⟨hr, rfl⟩ := ha.no (fun hh => h3 hh.2)
        refine ⟨s, nm, ?_, h⟩
        unfold AccA
        rw [hd]
        exact Ite.neg (by rw [hlen]; exact h3) ⟨hr, rfl⟩
  · obtain ⟨hr, rfl⟩ := ha.no h1
    refine ⟨s, nm, ?_, h⟩
    unfold AccA
    rw [h.shutA h1]
    exact ⟨hr, rfl⟩

/-- What the transaction has read holds, in the machine and among the threads. -/
theorem Sim.holds {c : Mc} {l : List Nat} {k : Nat} {s : AS} {nm : Int → Option Stm.Id} (h : Sim c l s nm) (w : Wf s) (hi : Inv c l k) {t : Nat} {d : ATx} (hd : (s.th t).tx = some d) : Holds c t ↔ ¬ (d.stale ∨ ∃ i, d.reads i ∧ Busy s t i) := by
  obtain ⟨_, ht⟩ := (h.th t).opened d hd
  have hver : ∀ p v, (c.tx t).recd p = some v → ¬ Owned c.xs t p → verOf c t p = cver c p := fun p v e hno => by
    obtain ⟨i, e1, e2⟩ := ht.recN p v e
    have hnb : ¬ Busy s t i := fun hb => hno ((h.busy hi e1 e2).2 hb)
    unfold verOf
    cases ho : (c.tx t).own p with
    | some o => exact (hi.cver_own ho).1.symm
    | none => exact (cver_free (h.free hi e1 hnb ho)).1.symm
  constructor
  · rintro hh (hst | ⟨i, hr, hb⟩)
    · obtain ⟨p, v, e1, e2⟩ := ht.stale.1 hst
      obtain ⟨g1, g2⟩ := hh p v e1
      exact e2 ((hver p v e1 g1).symm.trans g2)
    · obtain ⟨e1, p, v, e2, e3⟩ := (ht.reads i).1 hr
      exact (hh p v e3).1 ((h.busy hi e2 (.inl e1)).2 hb)
  · intro hn p v e
    obtain ⟨i, e1, e2⟩ := ht.recN p v e
    have hno : ¬ Owned c.xs t p := fun ho => by
      have hb := (h.busy hi e1 e2).1 ho
      refine hn (.inr ⟨i, (ht.reads i).2 ⟨?_, p, v, e1, e⟩, hb⟩)
      rcases e2 with e2 | e2
      · exact e2
      · obtain ⟨u, d', hne, hd', hov⟩ := hb
        obtain ⟨vs, hvs⟩ := Option.isSome_iff_exists.1 hov
        rcases ((w.th u).tx d' hd').overK i vs hvs with e3 | e3
        · exact e3
        · exact absurd (e3.1.symm.trans e2) hne
    refine ⟨hno, (hver p v e hno).trans (Classical.byContradiction fun hne => hn (.inl (ht.stale.2 ⟨p, v, e, hne⟩)))⟩

theorem Sim.step {c c' : Mc} {l l' : List Nat} {k : Nat} {s : AS} {nm : Int → Option Stm.Id} {a : Stm.Act} {r : Ans} (h : Sim c l s nm) (w : Wf s) (hg : Good c l k) (hk : k < 400) (hs : StepC c l a r c') (hg' : Good c' l' (k + 1))
    (hroom : a.kind = 4 → 0 ≤ a.n → a.n ≤ 6 → 2 + a.n ≤ c.xs.length - c.top) : ∃ s' nm', StepA s a r s' ∧ Sim c' l' s' nm' := by
  have hi := hg.inv
  have hl : ∀ {k' : Nat}, Inv c' l k' → l' = l := fun hh => hg'.inv.valid.unique hh.valid
  have same : ∀ {s' nm'}, c' = c → Sim c l s' nm' → Sim c' l' s' nm' := fun e hh => by
    subst e
    rw [hl hi]
    exact hh
  have undo : ∀ {d : ATx}, (s.th a.t.toNat).tx = some d → CUndo c a.t.toNat c' → ∃ nm', Sim c' l' (setTh s a.t.toNat (undoT d)) nm' := fun hd e => by
    rw [hl (hi.undo (by omega) e)]
    exact h.undo w hi (by omega) hd e
  by_cases h0 : firstErr a = 0
  · have hs := hs.yes h0
    obtain ⟨i1, i2, i3, i4⟩ := firstErr_in h0
    have hkd := firstErr_kind h0
    by_cases h1 : a.kind = 1
    · have hs := hs.yes h1
      have it := i1 (by omega)
      unfold In4 at it
      by_cases ho : (c.tx a.t.toNat).isOpen = true
      · obtain ⟨d, hd, _⟩ := h.openA ho
        obtain ⟨hr, hc⟩ := hs.yes ho
        refine ⟨s, nm, stepA1 h0 h1 ?_, same hc h⟩
        unfold BeginA
        rw [hd]
        exact ⟨hr, rfl⟩
      · obtain ⟨hr, hc⟩ := hs.no ho
        have ho' : (c.tx a.t.toNat).isOpen = false := by simpa using ho
        subst hc
        have hb := h.begin hi ho'
        rw [← hl (hi.begin (by omega) ho')] at hb
        refine ⟨_, nm, stepA1 h0 h1 ?_, hb⟩
        unfold BeginA
        rw [h.shutA ho]
        exact ⟨hr, rfl⟩
    have hs := hs.no h1
    by_cases h2 : a.kind = 2
    · have hs := hs.yes h2
      by_cases ho : (c.tx a.t.toNat).isOpen = true
      · have hs := hs.yes ho
        obtain ⟨d, hd, _⟩ := h.openA ho
        by_cases hh : Holds c a.t.toNat
        · obtain ⟨hr, ys, hy, rfl⟩ := hs.yes hh
          have hic := hi.commit hk hy
          have hb := h.commit w hi hd hy hic
          rw [← hl hic] at hb
          refine ⟨_, nm, stepA2 h0 h2 ?_, hb⟩
          unfold CommitA
          rw [hd]
          exact Ite.neg ((h.holds w hi hd).1 hh) ⟨hr, rfl⟩
        · obtain ⟨hr, hu⟩ := hs.no hh
          obtain ⟨nm', hs'⟩ := undo hd hu
          refine ⟨_, nm', stepA2 h0 h2 ?_, hs'⟩
          unfold CommitA
          rw [hd]
          exact Ite.pos (Classical.byContradiction fun hn => hh ((h.holds w hi hd).2 hn)) ⟨hr, rfl⟩
      · obtain ⟨hr, hc⟩ := hs.no ho
        refine ⟨s, nm, stepA2 h0 h2 ?_, same hc h⟩
        unfold CommitA
        rw [h.shutA ho]
        exact ⟨hr, rfl⟩
    have hs := hs.no h2
    by_cases h3 : a.kind = 3
    · have hs := hs.yes h3
      by_cases ho : (c.tx a.t.toNat).isOpen = true
      · obtain ⟨d, hd, _⟩ := h.openA ho
        obtain ⟨hr, hu⟩ := hs.yes ho
        obtain ⟨nm', hs'⟩ := undo hd hu
        refine ⟨_, nm', stepA3 h0 h3 ?_, hs'⟩
        unfold AbortA
        rw [hd]
        exact ⟨hr, rfl⟩
      · obtain ⟨hr, hc⟩ := hs.no ho
        refine ⟨s, nm, stepA3 h0 h3 ?_, same hc h⟩
        unfold AbortA
        rw [h.shutA ho]
        exact ⟨hr, rfl⟩
    have hs := hs.no h3
    by_cases h4 : a.kind = 4
    · have hs := hs.yes h4
      have it := i1 (by omega)
      have ia := i2 (by unfold usesA; omega)
      unfold In4 at it ia
      by_cases ho : (c.tx a.t.toNat).isOpen = true
      · have hs := hs.yes ho
        obtain ⟨d, hd, _⟩ := h.openA ho
        by_cases hn : 0 ≤ a.n ∧ a.n ≤ 6
        · have hs := hs.yes hn
          have hf := hroom h4 hn.1 hn.2
          obtain ⟨hr, hc⟩ := hs.yes hf
          obtain ⟨f, hfe⟩ := Int.eq_ofNat_of_zero_le hn.1
          obtain ⟨T, hT⟩ := Int.eq_ofNat_of_zero_le (a := c.top) (by have := hi.valid.top1; omega)
          have hin := hi.new (t := a.t.toNat) (A := a.a.toNat) (f := f) (by omega) (by omega) hT (by omega) (by omega)
          rw [hT, hfe, Int.toNat_natCast] at hc
          subst hc
          have hb := h.new (A := a.a.toNat) w hi hd hT (by omega) hin
          rw [← hg'.inv.valid.unique hin.valid] at hb
          refine ⟨_, _, stepA4 h0 h4 ?_, hb⟩
          unfold NewA
          rw [hd]
          refine Ite.pos hn ⟨hr, ?_⟩
          rw [hfe, Int.toNat_natCast]
        · obtain ⟨hr, hc⟩ := hs.no hn
          refine ⟨s, nm, stepA4 h0 h4 ?_, same hc h⟩
          unfold NewA
          rw [hd]
          exact Ite.neg hn ⟨hr, rfl⟩
      · obtain ⟨hr, hc⟩ := hs.no ho
        refine ⟨s, nm, stepA4 h0 h4 ?_, same hc h⟩
        unfold NewA
        rw [h.shutA ho]
        exact ⟨hr, rfl⟩
    have hs := hs.no h4
    by_cases h5 : a.kind = 5
    · have hs := hs.yes h5
      have it := i1 (by omega)
      have ia := i2 (by unfold usesA usesB; omega)
      unfold In4 at it ia
      have hll : l' = l := by
        unfold CGet at hs
        obtain ⟨l2, hg2, e⟩ : ∃ l2, Inv c' l2 (k + 1) ∧ l2 = l := by
          by_cases g1 : (c.tx a.t.toNat).isOpen = true
          · have hs := hs.yes g1
            by_cases g2 : (c.regs a.t.toNat a.b.toNat).k = 1 ∧ (c.regs a.t.toNat a.b.toNat).n ≠ 0
            · have hs := hs.yes g2
              by_cases g3 : (c.regs a.t.toNat a.b.toNat).n ∈ nums l ∧ 0 ≤ a.n ∧ a.n < c.xs.getD ((c.regs a.t.toNat a.b.toNat).n.toNat + 1) 0
              · have hs := hs.yes g3
                by_cases g4 : Owned c.xs a.t.toNat (c.regs a.t.toNat a.b.toNat).n
                · exact ⟨l, (hi.undo (by omega) (hs.yes g4).2).mono (Nat.le_succ k), rfl⟩
                · obtain ⟨q, hq, hql⟩ := nums_mem g3.1
                  obtain ⟨_, rfl⟩ := hs.no g4
                  have hkq : (q : Int) ∈ keepL c l := by
                    rcases hi.regs a.t.toNat a.b.toNat with hh | hh
                    · have := g2.1; rw [hh.1] at this; cases this
                    · rw [← hq]; exact hh.2
                  refine ⟨l, Inv.mono ?_ (Nat.le_succ k), rfl⟩
                  rw [hq] at g3 g4 ⊢
                  rw [Int.toNat_natCast] at g3
                  exact hi.get (by omega) (by omega) g1 hql hkq (by omega) g4
              · exact ⟨l, by rw [(hs.no g3).2]; exact hi.mono (Nat.le_succ k), rfl⟩
            · exact ⟨l, by rw [(hs.no g2).2]; exact hi.mono (Nat.le_succ k), rfl⟩
          · exact ⟨l, by rw [(hs.no g1).2]; exact hi.mono (Nat.le_succ k), rfl⟩
        subst e
        exact hl hg2
      rw [hll]
      obtain ⟨s', nm', g1, g2⟩ := h.acc (gA := fun s' d i => r = told ((Stm.view s.store d i).getD a.n.toNat (.inl 0)) ∧ s' = setTh s a.t.toNat (getT s.store (s.th a.t.toNat) d a.a.toNat i a.n.toNat)) w hi (by omega) hs (fun d i q _ hd hav hq hnq hvis hql hnb hno n0 n1 hgd => by
        have hnl : a.n.toNat < lenAt c.xs q := by have := (hi.place hql).2.2.2.1; omega
        have hfld := (h.view w hi hd hnq hvis hnb).2 a.n.toNat
        rw [Int.toNat_natCast, valsAt_getD hi hql hnl] at hfld
        obtain ⟨hr, rfl⟩ := hgd
        rw [hq] at hr ⊢
        rw [Int.toNat_natCast] at hr
        exact ⟨_, nm, ⟨hr.trans hfld.told, rfl⟩, h.get w hi hd hnq hvis hnb hnl⟩)
      exact ⟨s', nm', stepA5 h0 h5 g1, g2⟩
    have hs := hs.no h5
    by_cases h6 : a.kind = 6
    · have hs := hs.yes h6
      have it := i1 (by omega)
      unfold In4 at it
      have hput : ∀ q : Nat, (c.tx a.t.toNat).isOpen = true → (c.regs a.t.toNat a.a.toNat).n = (q : Int) → (c.regs a.t.toNat a.a.toNat).k = 1 → q ∈ l → ¬ Owned c.xs a.t.toNat q → 0 ≤ a.n → a.n < c.xs.getD (q + 1) 0 → Inv (putMc c a.t.toNat a.b.toNat q a.n.toNat) l k := fun q g1 hq gk hql g4 n0 n1 => by
        have hkq : (q : Int) ∈ keepL c l := by
          rcases hi.regs a.t.toNat a.a.toNat with hh | hh
          · rw [hh.1] at gk; cases gk
          · rw [← hq]; exact hh.2
        exact hi.put (by omega) (by omega) g1 hql hkq (by omega) g4
      have hll : l' = l := by
        unfold CPut at hs
        obtain ⟨l2, hg2, e⟩ : ∃ l2, Inv c' l2 (k + 1) ∧ l2 = l := by
          by_cases g1 : (c.tx a.t.toNat).isOpen = true
          · have hs := hs.yes g1
            by_cases g2 : (c.regs a.t.toNat a.a.toNat).k = 1 ∧ (c.regs a.t.toNat a.a.toNat).n ≠ 0
            · have hs := hs.yes g2
              by_cases g3 : (c.regs a.t.toNat a.a.toNat).n ∈ nums l ∧ 0 ≤ a.n ∧ a.n < c.xs.getD ((c.regs a.t.toNat a.a.toNat).n.toNat + 1) 0
              · have hs := hs.yes g3
                by_cases g4 : Owned c.xs a.t.toNat (c.regs a.t.toNat a.a.toNat).n
                · exact ⟨l, (hi.undo (by omega) (hs.yes g4).2).mono (Nat.le_succ k), rfl⟩
                · obtain ⟨q, hq, hql⟩ := nums_mem g3.1
                  obtain ⟨_, rfl⟩ := hs.no g4
                  refine ⟨l, Inv.mono ?_ (Nat.le_succ k), rfl⟩
                  have hp' := hput q g1 hq g2.1 hql
                  rw [hq] at g3 g4 ⊢
                  rw [Int.toNat_natCast] at g3
                  exact hp' g4 g3.2.1 g3.2.2
              · exact ⟨l, by rw [(hs.no g3).2]; exact hi.mono (Nat.le_succ k), rfl⟩
            · exact ⟨l, by rw [(hs.no g2).2]; exact hi.mono (Nat.le_succ k), rfl⟩
          · exact ⟨l, by rw [(hs.no g1).2]; exact hi.mono (Nat.le_succ k), rfl⟩
        subst e
        exact hl hg2
      rw [hll]
      obtain ⟨s', nm', g1, g2⟩ := h.acc (gA := fun s' d i => r = .ok ∧ s' = setTh s a.t.toNat (putT s.store (s.th a.t.toNat) d a.b.toNat i a.n.toNat)) w hi (by omega) hs (fun d i q hop hd hav hq hnq hvis hql hnb hno n0 n1 hgd => by
        have hnl : a.n.toNat < lenAt c.xs q := by have := (hi.place hql).2.2.2.1; omega
        have hk1 : (c.regs a.t.toNat a.a.toNat).k = 1 := (h.visRegs w hav).2.1
        have hp' := hput q hop hq hk1 hql hno n0 n1
        obtain ⟨hr, rfl⟩ := hgd
        rw [hq]
        exact ⟨_, nm, ⟨hr, rfl⟩, h.put w hi hp' hd hnq hvis hnb hnl⟩)
      exact ⟨s', nm', stepA6 h0 h6 g1, g2⟩
    have hs := hs.no h6
    by_cases h7 : a.kind = 7
    · have hs := hs.yes h7
      have it := i1 (by omega)
      have ia := i2 (by unfold usesA; omega)
      unfold In4 at it ia
      by_cases hn : -1099511627776 ≤ a.n ∧ a.n ≤ 1099511627776
      · obtain ⟨hr, rfl⟩ := hs.yes hn
        refine ⟨_, nm, stepA7 h0 h7 (Ite.pos hn ⟨hr, rfl⟩), ?_⟩
        rw [hl (hi.setReg (by omega) (by omega) (.inl ⟨rfl, hn.1, hn.2⟩))]
        exact h.setReg hi ⟨rfl, rfl⟩
      · obtain ⟨hr, hc⟩ := hs.no hn
        exact ⟨s, nm, stepA7 h0 h7 (Ite.neg hn ⟨hr, rfl⟩), same hc h⟩
    have hs := hs.no h7
    by_cases h8 : a.kind = 8
    · have hs := hs.yes h8
      have it := i1 (by omega)
      have ia := i2 (by unfold usesA usesB; omega)
      unfold In4 at it ia
      have hop : ∀ t, (c.tx t).isOpen = true ↔ (s.th t).tx ≠ none := fun t => ⟨fun e => by obtain ⟨d, hd, _⟩ := h.openA e; rw [hd]; exact fun e => (by cases e), fun e => Classical.byContradiction fun e2 => e (h.shutA e2)⟩
      have hcond : (a.n.toNat ≠ a.t.toNat ∧ ((c.tx a.t.toNat).isOpen = true ∨ (c.tx a.n.toNat).isOpen = true)) ↔ (a.n.toNat ≠ a.t.toNat ∧ ((s.th a.t.toNat).tx ≠ none ∨ (s.th a.n.toNat).tx ≠ none)) := by rw [hop, hop]
      by_cases hn : a.n.toNat ≠ a.t.toNat ∧ ((c.tx a.t.toNat).isOpen = true ∨ (c.tx a.n.toNat).isOpen = true)
      · obtain ⟨hr, hc⟩ := hs.yes hn
        exact ⟨s, nm, stepA8 h0 h8 (Ite.pos (hcond.1 hn) ⟨hr, rfl⟩), same hc h⟩
      · obtain ⟨hr, rfl⟩ := hs.no hn
        refine ⟨_, nm, stepA8 h0 h8 (Ite.neg (fun hh => hn (hcond.2 hh)) ⟨hr, rfl⟩), ?_⟩
        rw [hl (hi.setReg (by omega) (by omega) (hi.regs a.n.toNat a.b.toNat))]
        exact h.setReg hi ((h.th a.n.toNat).regs a.b.toNat)
    have hs := hs.no h8
    by_cases h9 : a.kind = 9
    · obtain ⟨hr, hc⟩ := hs.yes h9
      refine ⟨s, nm, stepA9 h0 h9 ⟨?_, rfl⟩, same hc h⟩
      rw [hr, VR.same h.inj ((h.th _).regs _) ((h.th _).regs _)]
    have hs := hs.no h9
    have hcl : Stm.Clean a := by unfold Stm.Clean; omega
    refine ⟨s, ?_⟩
    suffices hh : ∃ nm', Sim c' l' s nm' by
      obtain ⟨nm', hh⟩ := hh
      exact ⟨nm', (StepA.clean hcl).2 rfl, hh⟩
    have hcoll : ∀ (x : Coll), Inv ⟨c.xs, c.top, c.regs, c.tx, x⟩ l' (k + 1) → Sim ⟨c.xs, c.top, c.regs, c.tx, x⟩ l' s nm := fun x hx => by
      have e : l' = l := hx.valid.unique hi.valid
      subst e
      exact ⟨h.dom, h.inj, h.known, fun t => (h.th t).frame rfl rfl (fun _ _ _ => rfl) (fun _ _ _ _ _ _ _ => rfl), h.store⟩
    by_cases h10 : a.kind = 10
    · have hs := hs.yes h10
      by_cases hgo : c.coll.going = true
      · exact ⟨nm, same (hs.yes hgo).2 h⟩
      · obtain ⟨_, rs, zs, _, _, rfl⟩ := hs.no hgo
        exact ⟨nm, hcoll _ hg'.inv⟩
    have hs := hs.no h10
    by_cases h11 : a.kind = 11
    · have hs := hs.yes h11
      by_cases hn : 1 ≤ a.n ∧ a.n ≤ 400
      · have hs := hs.yes hn
        by_cases hgo : c.coll.going = true
        · have hs := hs.yes hgo
          by_cases hlt : 0 < c.coll.left - a.n
          · obtain ⟨_, rfl⟩ := hs.yes hlt
            exact ⟨nm, hcoll _ hg'.inv⟩
          · obtain ⟨f, _, hf⟩ := hs.no hlt
            exact h.finish hi hgo hf hg'.inv
        · exact ⟨nm, same (hs.no hgo).2 h⟩
      · exact ⟨nm, same (hs.no hn).2 h⟩
    have hs := hs.no h11
    exact ⟨nm, same hs.2 h⟩
  · obtain ⟨hr, hc⟩ := hs.no h0
    exact ⟨s, nm, Ite.neg h0 ⟨hr, rfl⟩, same hc h⟩
end Go.Proofs.Ytpdcaoagpjcgbab

