/-
  A region whose order is drawn: an operation that reads may be taken first where what it reads is kept by all that may come before it; of what waits for it nothing is asked. No program is named here. It proves no statement by itself.
-/
import Derived.Deep.RegionHeld3
import Derived.StillTail
set_option linter.unusedVariables false
set_option linter.unusedSimpArgs false
namespace Go.Proofs.Ytpdcaoagpjcgbab
open Go

section
variable {P : Program} {ops : Array Oper} {Q : Exit → Go.Act → World → Prop} {md : Region.Mode} {S : World → Prop} {late : Nat → Bool}

/-- Whatever order is picked, and S holds behind every operation that is not late. -/
def wpLate (P : Program) (md : Region.Mode) (ops : Array Oper) (Q : Exit → Go.Act → World → Prop) (S : World → Prop) (late : Nat → Bool) : Nat → Array Bool → Go.Act → World → Prop
  | 0, listed, a, w => Region.ready md ops listed = [] ∧ Q .normal a w
  | n + 1, listed, a, w => (Region.ready md ops listed = [] → Q .normal a w) ∧ ∀ i ∈ Region.ready md ops listed, wpOp P ops Q i (fun b u => (late i = false → S u) ∧ wpLate P md ops Q S late n (listed.setIfInBounds i true) b u) a w

theorem wpLate.any : ∀ (n : Nat) (listed : Array Bool) (a : Go.Act) (w : World), wpLate P md ops Q S late n listed a w → wpAny P md ops Q n listed a w
  | 0, _, _, _, h => h
  | n + 1, _, _, _, h => ⟨h.1, fun i hi => wpOp_mono (fun b u hb => wpLate.any n _ b u hb.2) (h.2 i hi)⟩

theorem wp_region_late {id : Nat} {a : Go.Act} {w : World} (late : Nat → Bool) (S : World → Prop) (hm : P.follows .mixedOrders = true) (h : wpLate P .any ops Q S late ops.size (Array.replicate ops.size false) a w.drew) : (Code.region id ops true).wp P Q a w :=
  wp_region_any hm (wpLate.any _ _ _ _ h)

/-- It waits for i, perhaps by way of others. -/
def chainW (md : Region.Mode) (ops : Array Oper) : Nat → Nat → Nat → Bool
  | 0, j, i => Region.waitsFor md ops j i
  | n + 1, j, i => Region.waitsFor md ops j i || (List.range ops.size).any fun k => Region.waitsFor md ops j k && chainW md ops n k i

/-- What is late waits for i, or has come up. -/
def lateWaits (md : Region.Mode) (ops : Array Oper) (late : Nat → Bool) (listed : Array Bool) (i : Nat) : Bool :=
  (List.range ops.size).all fun j => !late j || (listed.getD j true || chainW md ops 6 j i)
/-- What has come up came up behind all that it waits for. -/
def Shutd (md : Region.Mode) (ops : Array Oper) (listed : Array Bool) : Prop := ∀ k ok, ops[k]? = some ok → listed.getD k false = true → ∀ e ∈ ok.after, Region.binds md e = true → listed.getD e.on false = true
def shutB (md : Region.Mode) (ops : Array Oper) (listed : Array Bool) : Bool :=
  (List.range ops.size).all fun k => match ops[k]? with
    | some ok => !(listed.getD k false) || ok.after.all fun e => !(Region.binds md e) || listed.getD e.on false
    | none => true
theorem shutB_spec {md : Region.Mode} {ops : Array Oper} {listed : Array Bool} (h : shutB md ops listed = true) : Shutd md ops listed := fun k ok hk hl e he hb => by
  have hks : k < ops.size := by
    rcases Nat.lt_or_ge k ops.size with hlt | hge
    · exact hlt
    · rw [Array.getElem?_eq_none hge] at hk; cases hk
  have h1 := List.all_eq_true.1 h k (List.mem_range.2 hks)
  rw [hk] at h1
  dsimp only at h1
  rw [hl] at h1
  simp only [Bool.not_true, Bool.false_or] at h1
  have h2 := Array.all_eq_true'.1 h1 e he
  rw [hb] at h2
  simpa using h2

theorem Shutd.chain {listed : Array Bool} (h : Shutd md ops listed) {i : Nat} : ∀ (n k : Nat), chainW md ops n k i = true → listed.getD k false = true → listed.getD i false = true
  | 0, k, hw, hl => by
    obtain ⟨ok, hok, ed, he, hb, heq⟩ := Region.waitsFor_spec hw
    have := h k ok hok hl ed he hb
    rwa [heq] at this
  | n + 1, k, hw, hl => by
    unfold chainW at hw
    rcases Bool.or_eq_true_iff.1 hw with hw | hw
    · obtain ⟨ok, hok, ed, he, hb, heq⟩ := Region.waitsFor_spec hw
      have := h k ok hok hl ed he hb
      rwa [heq] at this
    · obtain ⟨m, _, hm⟩ := List.any_eq_true.1 hw
      obtain ⟨h2, h3⟩ := Bool.and_eq_true_iff.1 hm
      obtain ⟨ok, hok, ed, he, hb, heq⟩ := Region.waitsFor_spec h2
      have := h k ok hok hl ed he hb
      rw [heq] at this
      exact h.chain n m h3 this
theorem Shutd.ready {listed : Array Bool} (h : Shutd md ops listed) {i j : Nat} {oj : Oper} (hoj : ops[j]? = some oj) (hall : ∀ e ∈ oj.after, Region.binds md e = true → listed.getD e.on false = true) (n : Nat) (hw : chainW md ops n j i = true) : listed.getD i false = true := by
  have one : ∀ k, Region.waitsFor md ops j k = true → listed.getD k false = true := fun k hk => by
    obtain ⟨ok, hok, ed, he, hb, heq⟩ := Region.waitsFor_spec hk
    rw [hoj] at hok
    injection hok with hok
    subst hok
    have := hall ed he hb
    rwa [heq] at this
  cases n with
  | zero => exact one i hw
  | succ n =>
    unfold chainW at hw
    rcases Bool.or_eq_true_iff.1 hw with hw | hw
    · exact one i hw
    · obtain ⟨m, _, hm⟩ := List.any_eq_true.1 hw
      obtain ⟨h2, h3⟩ := Bool.and_eq_true_iff.1 hm
      exact h.chain n m h3 (one m h2)

theorem wpLate.first {i : Nat} {oi : Oper} {v : Value} (hi : ops[i]? = some oi) (hsel : Region.noSelect ops = true) (hQ : ∀ c a w, Q (.panic c) (a.put oi.dst v) w → Q (.panic c) a w) : ∀ (n : Nat) (listed : Array Bool) (a : Go.Act) (w : World),
    (∀ j oj, ops[j]? = some oj → j ≠ i → listed.getD j true = false → (∀ e ∈ oj.after, Region.binds md e = true → e.on ≠ i) → oi.apart ops oj = true) →
    (∀ j oj, ops[j]? = some oj → late j = true → listed.getD j true = false → chainW md ops 6 j i = true) → Shutd md ops listed → i ∈ Region.ready md ops listed → YieldsIf P ops S oi v a → S w →
    wpLate P md ops Q S late n (listed.setIfInBounds i true) (a.put oi.dst v) w → wpLate P md ops Q S late (n + 1) listed a w := by
  have hns := Region.noSelect_spec hsel
  intro n
  induction n with
  | zero =>
    intro listed a w _ _ _ hr hy hS H
    refine ⟨fun e => absurd hr (by rw [e]; exact List.not_mem_nil), fun j hj => ?_⟩
    by_cases e : j = i
    · subst e
      exact hy.wpOp hi hS ⟨fun _ => hS, H⟩
    · have := ready_mono hj e
      rw [H.1] at this
      exact absurd this List.not_mem_nil
  | succ n ih =>
    intro listed a w hfree hlate hsh hr hy hS H
    refine ⟨fun e => absurd hr (by rw [e]; exact List.not_mem_nil), fun j hj => ?_⟩
    by_cases e : j = i
    · subst e
      exact hy.wpOp hi hS ⟨fun _ => hS, H⟩
    · obtain ⟨hun, oj, hoj, hall⟩ := mem_ready.1 hj
      have hiu := (mem_ready.1 hr).1
      have hbound : listed.getD i false = false := by
        rcases Nat.lt_or_ge i listed.size with hlt | hge
        · simp [hlt] at hiu ⊢; exact hiu
        · simp [Array.getElem?_eq_none hge]
      have hno : ∀ ed ∈ oj.after, Region.binds md ed = true → ed.on ≠ i := fun ed he hb heq => by
        have := hall ed he hb
        rw [heq, hbound] at this
        cases this
      have hl : late j = false := by
        cases hl : late j with
        | false => rfl
        | true =>
          have := hsh.ready hoj hall 6 (hlate j oj hoj hl hun)
          rw [hbound] at this
          cases this
      have h1 := H.2 j (ready_mono hj e)
      have h2 := wpOp_putIf hoj (hfree j oj hoj e hun hno) (fun cs b => hns i oi cs b hi) (fun cs b => hns j oj cs b hoj) hQ hy h1
      refine wpOp_mono (fun b u hb => ?_) h2
      refine ⟨fun _ => hb.2.1 hl, ih _ b u (fun k ok hk hki hku hkn => hfree k ok hk hki ?_ hkn) (fun k ok hko hk hku => hlate k ok hko hk ?_) (fun k ok hko hkl ed he hb' => ?_) (ready_mono hr (Ne.symm e)) hb.1 (hb.2.1 hl) ?_⟩
      · by_cases ejk : j = k
        · subst ejk; exact hun
        · rw [getD_set_ne true ejk] at hku; exact hku
      · by_cases ejk : j = k
        · subst ejk; exact hun
        · rw [getD_set_ne true ejk] at hku; exact hku
      · refine getD_set_true ?_
        by_cases ejk : j = k
        · subst ejk
          rw [hoj] at hko
          injection hko with hko
          subst hko
          exact hall ed he hb'
        · rw [getD_set_ne false ejk] at hkl
          exact hsh k ok hko hkl ed he hb'
      · rw [Array.setIfInBounds_comm _ _ e]
        exact hb.2.2

theorem wpLate.take {i : Nat} {oi : Oper} {v : Value} {n : Nat} {listed : Array Bool} {a : Go.Act} {w : World} (hi : ops[i]? = some oi) (hs : Region.noSelect ops = true) (hf : Region.free md ops listed i = true) (hr : (Region.ready md ops listed).contains i = true) (hl : (lateWaits md ops late listed i && shutB md ops listed) = true)
    (hQ : ∀ c a w, Q (.panic c) (a.put oi.dst v) w → Q (.panic c) a w) (hy : YieldsIf P ops S oi v a) (hS : S w) (h : wpLate P md ops Q S late n (listed.setIfInBounds i true) (a.put oi.dst v) w) : wpLate P md ops Q S late (n + 1) listed a w := by
  obtain ⟨hl, hsh⟩ := Bool.and_eq_true_iff.1 hl
  refine wpLate.first hi hs hQ n listed a w (Region.free_spec hi hf) (fun j oj hoj hj hun => ?_) (shutB_spec hsh) (by simpa using hr) hy hS h
  have hjs : j < ops.size := by
    rcases Nat.lt_or_ge j ops.size with hlt | hge
    · exact hlt
    · rw [Array.getElem?_eq_none hge] at hoj; cases hoj
  have := List.all_eq_true.1 hl j (List.mem_range.2 hjs)
  rw [hj, hun] at this
  simp only [Bool.not_true, Bool.false_or] at this
  exact this

/-- Each of these comes up next. -/
def AllLate (P : Program) (md : Region.Mode) (ops : Array Oper) (Q : Exit → Go.Act → World → Prop) (S : World → Prop) (late : Nat → Bool) (n : Nat) (listed : Array Bool) (a : Go.Act) (w : World) (rs : List Nat) : Prop :=
  ∀ i ∈ rs, wpOp P ops Q i (fun b u => (late i = false → S u) ∧ wpLate P md ops Q S late n (listed.setIfInBounds i true) b u) a w
theorem AllLate.nil {n : Nat} {listed : Array Bool} {a : Go.Act} {w : World} : AllLate P md ops Q S late n listed a w [] := fun _ h => absurd h List.not_mem_nil
theorem AllLate.cons {n : Nat} {listed : Array Bool} {a : Go.Act} {w : World} {i : Nat} {o : Oper} {rs : List Nat} (ho : ops[i]? = some o)
    (h : ∀ K : Go.Act → World → Prop, Shut (∀ b u, (late i = false → S u) → ((late i = false → S u) → wpLate P md ops Q S late n (listed.setIfInBounds i true) b u) → K b u) → if Region.wanted o (yielded ops a.tmps) = true then Oper.wp P o a w K Q else K (a.put o.dst undef) w)
    (hs : AllLate P md ops Q S late n listed a w rs) : AllLate P md ops Q S late n listed a w (i :: rs) := fun j hj => by
  rcases List.mem_cons.1 hj with e | hj
  · subst e
    exact wpOp_step ho (fun K hK => h K (fun b u hS hW => hK b u ⟨hS, hW hS⟩))
  · exact hs j hj
theorem wpLate.ready {rs : List Nat} {n : Nat} {listed : Array Bool} {a : Go.Act} {w : World} (hr : Region.ready md ops listed = rs) (hne : rs ≠ []) (h : AllLate P md ops Q S late n listed a w rs) : wpLate P md ops Q S late (n + 1) listed a w :=
  ⟨fun e => absurd (hr.symm.trans e) hne, fun i hi => h i (hr ▸ hi)⟩
theorem wpLate.done {listed : Array Bool} {a : Go.Act} {w : World} (hr : Region.ready md ops listed = []) (h : Q .normal a w) : ∀ n, wpLate P md ops Q S late n listed a w
  | 0 => ⟨hr, h⟩
  | _ + 1 => ⟨fun _ => h, fun i hi => by rw [hr] at hi; exact absurd hi List.not_mem_nil⟩
end
end Go.Proofs.Ytpdcaoagpjcgbab

