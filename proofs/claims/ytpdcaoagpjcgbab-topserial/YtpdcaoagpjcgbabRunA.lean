/-
  The walk of perform of package stm, whatever the act. It proves no statement by itself.
-/
import Derived.Test.YtpdcaoagpjcgbabStmSame
import Derived.Test.YtpdcaoagpjcgbabInvA
import Derived.Deep.WholeRow
set_option linter.unusedVariables false
set_option linter.unusedSimpArgs false
namespace Go.Proofs.Ytpdcaoagpjcgbab
open Go.RowKit Stm

theorem MAnsW.imp {w w' : World} {B mb k : Nat} {ρ : Roles} {R R' : Ans → Mc → Prop} {e : Ending} (h : MAnsW w B mb k ρ R e w') (hr : ∀ r c, R r c → R' r c) : MAnsW w B mb k ρ R' e w' := by
  obtain ⟨x, c', m', ρ', h1, h2⟩ := h
  exact ⟨x, c', m', ρ', hr _ _ h1, h2⟩

theorem perform_any (B mb k : Nat) (ρ : Roles) (c : Mc) (m : Mem) (l : List Nat) (k' : Nat) (a : Stm.Act) (w : World) (h : Mach w B mb k ρ c m) (hi : Good c l k') (hB : B ≤ w.heap.size) (hk : k ≤ 400) (hk' : k' ≤ 400) :
    Calls Try.prog 66 #[.pointer (some ⟨mb, 0, none⟩), actVal a] w (MAnsW w B mb (k + 1) ρ (StepC c l a)) := by
  obtain ⟨kd, t, A, b, n⟩ := a
  unfold actVal
  dsimp only
  by_cases h0 : firstErr ⟨kd, t, A, b, n⟩ = 0
  · have hin := firstErr_in h0
    have hkd := firstErr_kind h0
    obtain ⟨i1, i2, i3, i4⟩ := hin
    dsimp only at i1 i2 i3 i4 hkd
    unfold In4 at i1 i2 i3 i4
    have nat : ∀ {x : Int}, (0 ≤ x ∧ x < 4) → ∃ y : Nat, y < 4 ∧ x = (y : Int) := fun {x} hx => ⟨x.toNat, by omega, by omega⟩
    by_cases h1 : kd = 1
    · subst h1
      obtain ⟨t', ht, rfl⟩ := nat (i1 (by omega))
      exact (perform_begin B mb k ρ c m l k' t' A b n w h hi hB hk hk' ht h0).mono fun e w' hp => hp.imp fun r c' hr => Ite.pos h0 (Ite.pos rfl (by dsimp only; rw [Int.toNat_natCast]; exact hr))
    by_cases h2 : kd = 2
    · subst h2
      obtain ⟨t', ht, rfl⟩ := nat (i1 (by omega))
      exact (perform_commit B mb k ρ c m l k' t' A b n w h hi hB hk hk' ht h0).mono fun e w' hp => hp.imp fun r c' hr => Ite.pos h0 (Ite.neg (by dsimp only; omega) (Ite.pos rfl (by dsimp only; rw [Int.toNat_natCast]; exact hr)))
    by_cases h3 : kd = 3
    · subst h3
      obtain ⟨t', ht, rfl⟩ := nat (i1 (by omega))
      exact (perform_abort B mb k ρ c m l k' t' A b n w h hi hB hk hk' ht h0).mono fun e w' hp => hp.imp fun r c' hr => Ite.pos h0 (Ite.neg (by dsimp only; omega) (Ite.neg (by dsimp only; omega) (Ite.pos rfl (by dsimp only; rw [Int.toNat_natCast]; exact hr))))
    by_cases h4 : kd = 4
    · subst h4
      obtain ⟨t', ht, rfl⟩ := nat (i1 (by omega))
      obtain ⟨A', hA, rfl⟩ := nat (i2 (by unfold usesA; omega))
      exact (perform_new B mb k ρ c m l k' t' A' b n w h hi hB hk hk' ht hA h0).mono fun e w' hp => hp.imp fun r c' hr => Ite.pos h0 (Ite.neg (by dsimp only; omega) (Ite.neg (by dsimp only; omega) (Ite.neg (by dsimp only; omega) (Ite.pos rfl (by dsimp only; rw [Int.toNat_natCast, Int.toNat_natCast]; exact hr)))))
    by_cases h5 : kd = 5
    · subst h5
      obtain ⟨t', ht, rfl⟩ := nat (i1 (by omega))
      obtain ⟨A', hA, rfl⟩ := nat (i2 (by unfold usesA usesB; omega))
      obtain ⟨b', hb, rfl⟩ := nat (i3 (by unfold usesB; omega))
      exact (perform_get B mb k ρ c m l k' t' A' b' n w h hi hB hk hk' ht hA hb h0).mono fun e w' hp => hp.imp fun r c' hr => Ite.pos h0 (Ite.neg (by dsimp only; omega) (Ite.neg (by dsimp only; omega) (Ite.neg (by dsimp only; omega) (Ite.neg (by dsimp only; omega) (Ite.pos rfl (by dsimp only; rw [Int.toNat_natCast, Int.toNat_natCast, Int.toNat_natCast]; exact hr))))))
    by_cases h6 : kd = 6
    · subst h6
      obtain ⟨t', ht, rfl⟩ := nat (i1 (by omega))
      obtain ⟨A', hA, rfl⟩ := nat (i2 (by unfold usesA usesB; omega))
      obtain ⟨b', hb, rfl⟩ := nat (i3 (by unfold usesB; omega))
      exact (perform_put B mb k ρ c m l k' t' A' b' n w h hi hB hk hk' ht hA hb h0).mono fun e w' hp => hp.imp fun r c' hr => Ite.pos h0 (Ite.neg (by dsimp only; omega) (Ite.neg (by dsimp only; omega) (Ite.neg (by dsimp only; omega) (Ite.neg (by dsimp only; omega) (Ite.neg (by dsimp only; omega) (Ite.pos rfl (by dsimp only; rw [Int.toNat_natCast, Int.toNat_natCast, Int.toNat_natCast]; exact hr)))))))
    by_cases h7 : kd = 7
    · subst h7
      obtain ⟨t', ht, rfl⟩ := nat (i1 (by omega))
      obtain ⟨A', hA, rfl⟩ := nat (i2 (by unfold usesA; omega))
      exact (perform_set B mb k ρ c m l k' t' A' b n w h hi hB hk hk' ht hA h0).mono fun e w' hp => hp.imp fun r c' hr => Ite.pos h0 (Ite.neg (by dsimp only; omega) (Ite.neg (by dsimp only; omega) (Ite.neg (by dsimp only; omega) (Ite.neg (by dsimp only; omega) (Ite.neg (by dsimp only; omega) (Ite.neg (by dsimp only; omega) (Ite.pos rfl (by dsimp only; rw [Int.toNat_natCast, Int.toNat_natCast]; exact hr))))))))
    by_cases h8 : kd = 8
    · subst h8
      obtain ⟨t', ht, rfl⟩ := nat (i1 (by omega))
      obtain ⟨A', hA, rfl⟩ := nat (i2 (by unfold usesA usesB; omega))
      obtain ⟨b', hb, rfl⟩ := nat (i3 (by unfold usesB; omega))
      obtain ⟨u, hu, rfl⟩ := nat (i4 rfl)
      exact (perform_copy B mb k ρ c m l k' t' A' b' u w h hi hB hk hk' ht hA hb hu h0).mono fun e w' hp => hp.imp fun r c' hr => Ite.pos h0 (Ite.neg (by dsimp only; omega) (Ite.neg (by dsimp only; omega) (Ite.neg (by dsimp only; omega) (Ite.neg (by dsimp only; omega) (Ite.neg (by dsimp only; omega) (Ite.neg (by dsimp only; omega) (Ite.neg (by dsimp only; omega) (Ite.pos rfl (by dsimp only; rw [Int.toNat_natCast, Int.toNat_natCast, Int.toNat_natCast, Int.toNat_natCast]; exact hr)))))))))
    by_cases h9 : kd = 9
    · subst h9
      obtain ⟨t', ht, rfl⟩ := nat (i1 (by omega))
      obtain ⟨A', hA, rfl⟩ := nat (i2 (by unfold usesA usesB; omega))
      obtain ⟨b', hb, rfl⟩ := nat (i3 (by unfold usesB; omega))
      exact (perform_same B mb k ρ c m l k' t' A' b' n w h hi hB hk hk' ht hA hb h0).mono fun e w' hp => hp.imp fun r c' hr => Ite.pos h0 (Ite.neg (by dsimp only; omega) (Ite.neg (by dsimp only; omega) (Ite.neg (by dsimp only; omega) (Ite.neg (by dsimp only; omega) (Ite.neg (by dsimp only; omega) (Ite.neg (by dsimp only; omega) (Ite.neg (by dsimp only; omega) (Ite.neg (by dsimp only; omega) (Ite.pos rfl (by dsimp only; rw [Int.toNat_natCast, Int.toNat_natCast, Int.toNat_natCast]; exact hr))))))))))
    by_cases h10 : kd = 10
    · subst h10
      exact (perform_collect B mb k ρ c m l k' t A b n w h hi hB hk hk' h0).mono fun e w' hp => hp.imp fun r c' hr => Ite.pos h0 (Ite.neg (by dsimp only; omega) (Ite.neg (by dsimp only; omega) (Ite.neg (by dsimp only; omega) (Ite.neg (by dsimp only; omega) (Ite.neg (by dsimp only; omega) (Ite.neg (by dsimp only; omega) (Ite.neg (by dsimp only; omega) (Ite.neg (by dsimp only; omega) (Ite.neg (by dsimp only; omega) (Ite.pos rfl hr))))))))))
    by_cases h11 : kd = 11
    · subst h11
      exact (perform_step B mb k ρ c m l k' t A b n w h hi hB hk hk' h0).mono fun e w' hp => hp.imp fun r c' hr => Ite.pos h0 (Ite.neg (by dsimp only; omega) (Ite.neg (by dsimp only; omega) (Ite.neg (by dsimp only; omega) (Ite.neg (by dsimp only; omega) (Ite.neg (by dsimp only; omega) (Ite.neg (by dsimp only; omega) (Ite.neg (by dsimp only; omega) (Ite.neg (by dsimp only; omega) (Ite.neg (by dsimp only; omega) (Ite.neg (by dsimp only; omega) (Ite.pos rfl hr)))))))))))
    obtain rfl : kd = 12 := by omega
    exact (perform_stat B mb k ρ c m l k' t A b n w h hi hB hk hk' h0).mono fun e w' hp => hp.imp fun r c' hr => Ite.pos h0 (Ite.neg (by dsimp only; omega) (Ite.neg (by dsimp only; omega) (Ite.neg (by dsimp only; omega) (Ite.neg (by dsimp only; omega) (Ite.neg (by dsimp only; omega) (Ite.neg (by dsimp only; omega) (Ite.neg (by dsimp only; omega) (Ite.neg (by dsimp only; omega) (Ite.neg (by dsimp only; omega) (Ite.neg (by dsimp only; omega) (Ite.neg (by dsimp only; omega) hr)))))))))))
  · exact (perform_err B mb k ρ c m l k' kd t A b n (firstErr ⟨kd, t, A, b, n⟩) w h hi hB hk hk' h0 rfl).mono fun e w' hp => hp.imp fun r c' hr => Ite.neg h0 hr
end Go.Proofs.Ytpdcaoagpjcgbab

/-
  A script run by the machine: plain mathematics; and lists of acts and answers in memory. It proves no statement by itself.
-/
namespace Go.Proofs.Ytpdcaoagpjcgbab
open Go.RowKit Stm

/-- A script over a heap of n words: the answers, the machine in the end, and its objects. -/
inductive RunC (n : Nat) : List Stm.Act → List Ans → Mc → List Nat → Prop where
  | nil : RunC n [] [] (Mc.init n) []
  | snoc {l : List Stm.Act} {rs : List Ans} {c : Mc} {lf : List Nat} {a : Stm.Act} {r : Ans} {c' : Mc} {lf' : List Nat} (h : RunC n l rs c lf) (hs : StepC c lf a r c') (hg : Good c' lf' (l.length + 1)) : RunC n (l ++ [a]) (rs ++ [r]) c' lf'

theorem RunC.length {n : Nat} {l : List Stm.Act} {rs : List Ans} {c : Mc} {lf : List Nat} (h : RunC n l rs c lf) : rs.length = l.length := by
  induction h with
  | nil => rfl
  | snoc _ _ _ ih => simp [ih]
theorem RunC.good {n : Nat} (h1 : 1 ≤ n) (h2 : n ≤ 400) {l : List Stm.Act} {rs : List Ans} {c : Mc} {lf : List Nat} (h : RunC n l rs c lf) : Good c lf l.length := by
  cases h with
  | nil => exact Good.init h1 h2
  | snoc _ _ hg => rw [List.length_append]; exact hg
theorem RunC.det {n : Nat} {l : List Stm.Act} {rs rs' : List Ans} {c c' : Mc} {lf lf' : List Nat} (h : RunC n l rs c lf) (h' : RunC n l rs' c' lf') : rs = rs' ∧ c = c' ∧ lf = lf' := by
  induction h generalizing rs' c' lf' with
  | nil =>
    generalize hl : ([] : List Stm.Act) = l at h'
    cases h' with
    | nil => exact ⟨rfl, rfl, rfl⟩
    | snoc _ _ _ => simp at hl
  | @snoc l rs c lf a r c1 lf1 h hs hg ih =>
    generalize hl : l ++ [a] = l2 at h'
    cases h' with
    | nil => simp at hl
    | @snoc l3 rs3 c3 lf3 a3 r3 c4 lf4 h3 hs3 hg3 =>
      obtain ⟨e1, e2⟩ := List.append_inj' hl rfl
      simp at e2
      subst e1 e2
      obtain ⟨rfl, rfl, rfl⟩ := ih h3
      obtain ⟨rfl, rfl⟩ := hs.det hs3
      exact ⟨rfl, rfl, hg.inv.valid.unique hg3.inv.valid⟩
/-- The beginning of a script. -/
theorem RunC.split {n : Nat} {l : List Stm.Act} {rs : List Ans} {c : Mc} {lf : List Nat} (h : RunC n l rs c lf) : ∀ (l1 l2 : List Stm.Act), l = l1 ++ l2 → ∃ r1 r2 c1 lf1, rs = r1 ++ r2 ∧ RunC n l1 r1 c1 lf1 := by
  induction h with
  | nil =>
    intro l1 l2 e
    obtain ⟨rfl, rfl⟩ := List.append_eq_nil_iff.1 e.symm
    exact ⟨[], [], _, _, rfl, .nil⟩
  | @snoc l rs c lf a r c1 lf1 h hs hg ih =>
    intro l1 l2 e
    rcases List.eq_nil_or_concat l2 with rfl | ⟨l3, b, rfl⟩
    · rw [List.append_nil] at e
      subst e
      exact ⟨rs ++ [r], [], _, _, by simp, .snoc h hs hg⟩
    · rw [List.concat_eq_append, ← List.append_assoc] at e
      obtain ⟨e1, _⟩ := List.append_inj' e rfl
      obtain ⟨r1, r2, c2, lf2, rfl, h2⟩ := ih l1 l3 e1
      exact ⟨r1, r2 ++ [r], c2, lf2, by simp, h2⟩

/-- A list of acts at address a. -/
def ActsAt (w : World) (a : Option Addr) (l : List Stm.Act) : Prop :=
  l = [] ∨ ∃ b o, a = some ⟨b, o, none⟩ ∧ b < w.heap.size ∧ ∀ i x, l[i]? = some x → w.cell? ⟨b, o + i * 5, none⟩ = some (.int .i64 x.kind) ∧ w.cell? ⟨b, o + i * 5 + 1, none⟩ = some (.int .i64 x.t) ∧ w.cell? ⟨b, o + i * 5 + 2, none⟩ = some (.int .i64 x.a) ∧ w.cell? ⟨b, o + i * 5 + 3, none⟩ = some (.int .i64 x.b) ∧ w.cell? ⟨b, o + i * 5 + 4, none⟩ = some (.int .i64 x.n)
theorem ActsAt.below {w w' : World} {a : Option Addr} {l : List Stm.Act} (h : ActsAt w a l) (hb : Below w.heap.size w w') : ActsAt w' a l := by
  rcases h with h | ⟨b, o, e, hlt, hc⟩
  · exact .inl h
  · refine .inr ⟨b, o, e, Nat.lt_of_lt_of_le hlt hb.size, fun i x hx => ?_⟩
    obtain ⟨h1, h2, h3, h4, h5⟩ := hc i x hx
    exact ⟨(hb.cell (p := ⟨b, _, none⟩) hlt).trans h1, (hb.cell (p := ⟨b, _, none⟩) hlt).trans h2, (hb.cell (p := ⟨b, _, none⟩) hlt).trans h3, (hb.cell (p := ⟨b, _, none⟩) hlt).trans h4, (hb.cell (p := ⟨b, _, none⟩) hlt).trans h5⟩

def acells (rs : List Ans) : List Value := rs.flatMap ansCells
theorem acells_length (rs : List Ans) : (acells rs).length = rs.length * 7 := by
  induction rs with
  | nil => rfl
  | cons r rs ih =>
    have : acells (r :: rs) = ansCells r ++ acells rs := rfl
    rw [this, List.length_append, ih]
    simp [ansCells]
    omega
theorem acells_snoc (rs : List Ans) (r : Ans) : acells (rs ++ [r]) = acells rs ++ ansCells r := by simp [acells]
/-- A list of answers in memory of the call's own. -/
def OwnA (w : World) (base : Nat) (v : Value) (rs : List Ans) : Prop := w.ownsRow base 74 7 v rs.length (acells rs)

/-- What Run leaves. -/
def RunYes (w : World) (n : Nat) (l : List Stm.Act) (e : Ending) (w' : World) : Prop :=
  ∃ (rs : List Ans) (c : Mc) (lf : List Nat) (a1 : Option Addr) (c1 : Nat) (a2 : Option Addr) (c2 : Nat), e = .returned (.tuple #[.slice a1 rs.length c1, .agg #[.slice a2 c.xs.length c2, .int .i64 c.top], .int .i64 0]) ∧
    RunC n l rs c lf ∧ OwnA w' w.heap.size (.slice a1 rs.length c1) rs ∧ Own w' w.heap.size (.slice a2 c.xs.length c2) c.xs ∧ Below w.heap.size w w'
end Go.Proofs.Ytpdcaoagpjcgbab

/-
  The walk of Run of package stm. It proves no statement by itself.
-/
namespace Go.Proofs.Ytpdcaoagpjcgbab
open Go.RowKit Stm

theorem Try.answerInfo : (Try.prog.info? 74).map (fun i => (i.zero, i.size, i.bytes)) = some (some (.agg #[.int .i64 0, .bool false, .int .i64 0, .bool false, .int .i64 0, .bool false, .int .i64 0]), 7, 56) := by kernel_rfl


theorem start_rest (a : Option Addr) (n c i : Nat) (h : 2 ≤ i) : ((Try.zeroCells114.setIfInBounds 0 (.slice a n c)).setIfInBounds 1 (.int .i64 1))[i]? = Try.zeroCells114[i]? := by
  rw [Array.getElem?_setIfInBounds_ne (by omega), Array.getElem?_setIfInBounds_ne (by omega)]
theorem start_size : Try.zeroCells114.size = 82 := by kernel_rfl

/-- The machine at the start. -/
theorem Mach.start (w : World) (B n cp : Nat) (a : Option Addr) (hB : B ≤ w.heap.size) (ho : Own w B (.slice a n cp) (List.replicate n 0)) :
    Mach (w.alloc (.cells ((Try.zeroCells114.setIfInBounds 0 (.slice a n cp)).setIfInBounds 1 (.int .i64 1)) 114)) B w.heap.size 0 (fun i => if i = w.heap.size then some (0, 0, 0) else if (Value.slice a n cp).ownBlock = some i then some (1, 0, 0) else none) (Mc.init n) ⟨a, cp, fun _ => none, fun _ => none, fun _ _ => none, fun _ _ => 0, none, 0⟩ := by
  have e : (w.alloc (.cells ((Try.zeroCells114.setIfInBounds 0 (.slice a n cp)).setIfInBounds 1 (.int .i64 1)) 114)).heap[w.heap.size]? = some (.cells ((Try.zeroCells114.setIfInBounds 0 (.slice a n cp)).setIfInBounds 1 (.int .i64 1)) 114 (0, 0)) := (MapKept.heap_alloc w _).1
  have hc : ∀ i, (w.alloc (.cells ((Try.zeroCells114.setIfInBounds 0 (.slice a n cp)).setIfInBounds 1 (.int .i64 1)) 114)).cell? ⟨w.heap.size, i, none⟩ = ((Try.zeroCells114.setIfInBounds 0 (.slice a n cp)).setIfInBounds 1 (.int .i64 1))[i]? := fun i => by
    unfold World.cell?
    rw [e]
    rfl
  have hr : ∀ i, 2 ≤ i → (w.alloc (.cells ((Try.zeroCells114.setIfInBounds 0 (.slice a n cp)).setIfInBounds 1 (.int .i64 1)) 114)).cell? ⟨w.heap.size, i, none⟩ = Try.zeroCells114[i]? := fun i hi => (hc i).trans (start_rest a n cp i hi)
  have hlt : ∀ g, (Value.slice a n cp).ownBlock = some g → B ≤ g ∧ g < w.heap.size := fun g hg => World.ownsRow.lt ho _ hg
  refine ⟨⟨by simp, ?_, ?_, ?_, ?_, ?_, ?_, ?_, ?_, ?_, ?_, ?_, ?_, ?_, fun i => ?_⟩, ?_, World.ownsRow_nil _ _ _ _, fun t ht => TxMem.zero _ _ _ _ _ _ _, by simp, fun g hg => ?_, fun g hg => (by cases hg), fun i hi => ?_⟩
  · rw [hc]
    rw [Array.getElem?_setIfInBounds_ne (by omega), Array.getElem?_setIfInBounds_self_of_lt (by rw [start_size]; omega)]
    simp [Mc.init]
  · rw [hc]
    rw [Array.getElem?_setIfInBounds_self_of_lt (by simp [start_size])]
    rfl
  · intro t r ht hr'
    rw [hr _ (by omega)]
    rcases four_cases ht with rfl | rfl | rfl | rfl <;> rcases four_cases hr' with rfl | rfl | rfl | rfl <;> rfl
  · intro t r ht hr'
    rw [hr _ (by omega)]
    rcases four_cases ht with rfl | rfl | rfl | rfl <;> rcases four_cases hr' with rfl | rfl | rfl | rfl <;> rfl
  · intro t ht
    rw [hr _ (by omega)]
    rcases four_cases ht with rfl | rfl | rfl | rfl <;> rfl
  · intro t r ht hr'
    rw [hr _ (by omega)]
    rcases four_cases ht with rfl | rfl | rfl | rfl <;> rcases four_cases hr' with rfl | rfl | rfl | rfl <;> rfl
  · intro t r ht hr'
    rw [hr _ (by omega)]
    rcases four_cases ht with rfl | rfl | rfl | rfl <;> rcases four_cases hr' with rfl | rfl | rfl | rfl <;> rfl
  · intro t ht
    rw [hr _ (by omega)]
    rcases four_cases ht with rfl | rfl | rfl | rfl <;> rfl
  · intro t ht
    rw [hr _ (by omega)]
    rcases four_cases ht with rfl | rfl | rfl | rfl <;> rfl
  · rw [hr _ (by omega)]; rfl
  · rw [hr _ (by omega)]; rfl
  · rw [hr _ (by omega)]; rfl
  · rw [hr _ (by omega)]; rfl
  · unfold World.frozen?
    rw [e]
    simp
  · have h9 : Own (w.alloc (.cells ((Try.zeroCells114.setIfInBounds 0 (.slice a n cp)).setIfInBounds 1 (.int .i64 1)) 114)) B (.slice a n cp) (List.replicate n 0) := ownsRow_kept ho (fun g hg => Below.heap_alloc _ _ _ (hlt g hg).2)
    simpa [Mc.init] using h9
  · have hg' : (Value.slice a n cp).ownBlock = some g := by rw [← hg]; exact ownBlock_any _ _ _ _ _
    have := hlt g hg'
    rw [if_neg (by omega), if_pos hg']
  · by_cases e1 : i = w.heap.size
    · subst e1; exact ⟨hB, by simp⟩
    · rw [if_neg e1] at hi
      by_cases e2 : (Value.slice a n cp).ownBlock = some i
      · have := hlt i e2
        exact ⟨this.1, by simp; omega⟩
      · rw [if_neg e2] at hi
        exact absurd rfl hi

theorem run_startStore (w : World) (a : Option Addr) (n c : Nat) : (storeCells ⟨w.heap.size, 0, none⟩ ((Try.zeroCells114.toList.set 0 (.slice a n c)).set 1 (.int .i64 1))).run Try.prog (w.alloc (.cells Try.zeroCells114 114)) = .ok () (w.alloc (.cells ((Try.zeroCells114.setIfInBounds 0 (.slice a n c)).setIfInBounds 1 (.int .i64 1)) 114)) := by
  have h := run_storeCells_new (P := Try.prog) w 114 Try.zeroCells114 ((Try.zeroCells114.setIfInBounds 0 (.slice a n c)).setIfInBounds 1 (.int .i64 1)) (by rw [Array.size_setIfInBounds, Array.size_setIfInBounds]; kernel_rfl) (by rw [Array.size_setIfInBounds, Array.size_setIfInBounds]) (by
    have hz : Try.zeroCells114.all (·.oneCell') = true := by kernel_rfl
    rw [Array.all_eq_true] at hz ⊢
    intro i hi
    simp only [Array.size_setIfInBounds] at hi
    by_cases h1 : i = 1
    · subst h1; simp [Value.oneCell']
    · rw [Array.getElem_setIfInBounds_ne (by simpa using hi) (by omega)]
      by_cases h0 : i = 0
      · subst h0; simp [Value.oneCell']
      · rw [Array.getElem_setIfInBounds_ne hi (by omega)]
        exact hz i hi)
  have e : ((Try.zeroCells114.setIfInBounds 0 (.slice a n c)).setIfInBounds 1 (.int .i64 1)).toList = (Try.zeroCells114.toList.set 0 (.slice a n c)).set 1 (.int .i64 1) := by
    rw [Array.toList_setIfInBounds, Array.toList_setIfInBounds]
  rw [e] at h
  exact h

theorem addr_add (b j : Nat) : (⟨b, 0, none⟩ : Addr).add j = ⟨b, j, none⟩ := by
  unfold Addr.add
  by_cases h0 : j = 0 <;> simp [h0]
theorem ans_new (w : World) (r : Ans) (t : TypeId) : ∀ j u, (ansCells r)[j]? = some u → (w.alloc (.cells (ansCells r).toArray t)).cell? ((⟨w.heap.size, 0, none⟩ : Addr).add j) = some u := fun j u hu => by
  rw [addr_add]
  exact (BoxL.new w (ansCells r) t).cell j u hu

/-- What holds between two acts of a script. -/
structure RunSt (w : World) (mb n : Nat) (l : List Stm.Act) (i ga ca : Nat) (wr : World) : Prop where
  ex : ∃ (rs : List Ans) (c : Mc) (lf : List Nat) (m : Mem) (ρr : Roles), Mach wr w.heap.size mb i ρr c m ∧ RunC n (l.take i) rs c lf ∧ wr.ownsRow (w.heap.size + 1) 74 7 (.slice (some ⟨ga, 0, none⟩) i ca) i (acells rs) ∧ ρr ga = none ∧ ρr w.heap.size = none ∧ rs.length = i
  bel : Below w.heap.size w wr
  box : Box2 wr w.heap.size (.slice none 0 0) (.int .i64 0)

set_option maxHeartbeats 3200000 in
set_option maxRecDepth 100000 in
theorem run_yes (n : Nat) (l : List Stm.Act) (a : Option Addr) (L cp : Nat) (w : World) (h1 : 1 ≤ n) (h2 : n ≤ 400) (hl : l.length = L) (hL : L ≤ 400) (ha : ActsAt w a l) :
    Calls Try.prog 32 #[.int .i64 n, .slice a L cp] w (RunYes w n l) := by
  have HA := Lib.hide ha
  have HL := Lib.hide hl
  clear ha hl
  go_enter Try.func32, Try.ntmps32
  go_wp2_with fail
  have hW : Below w.heap.size w (w.alloc (.cells #[.slice none 0 0, .int .i64 0] 27)) := (by repeat (first | exact Below.refl _ _ | assumption | refine Below.drew ?_ | refine below_drewN ?_ _ | refine Below.allocs ?_ | refine Below.next ?_ (by assumption) | refine Below.setCell ?_ (by dsimp only; omega) _))
  have hB0 := Box2.new w (.slice none 0 0) (.int .i64 0) 27
  generalize hWe : w.alloc (.cells #[.slice none 0 0, .int .i64 0] 27) = W at hW hB0 ⊢
  have CN := Lib.hide (new_yes n W h1 h2)
  refine CN.out.mono ?_
  rintro e w1 ⟨a1, c1, rfl, ho1, hb1⟩
  have HO1 := Lib.hide ho1
  have HB1 := Lib.hide (Below.next hW hb1)
  have HB0 := Lib.hide (hB0.next hb1)
  have hsz : w.heap.size < W.heap.size := hB0.lt
  clear hW hB0 hWe ho1 hb1 CN
  have hL' : ¬ 400 < (L : Int) := by omega
  obtain ⟨iA, hiA, hA0, hA1, hA2⟩ := info_parts Try.answerInfo
  have hX1 : (w1.alloc (.cells #[.slice a1 n c1, .int .i64 1] 27)).heap.size = w1.heap.size + 1 := by simp
  have hst := run_startStore (w1.alloc (.cells #[.slice a1 n c1, .int .i64 1] 27)) a1 n c1
  rw [hX1] at hst
  have hWs : w.heap.size ≤ w1.heap.size := HB1.out.size
  have hoX : Own (w1.alloc (.cells #[.slice a1 n c1, .int .i64 1] 27)) w.heap.size (.slice a1 n c1) (List.replicate n 0) := ownsRow_kept (ownsRow_base HO1.out (by omega)) (fun g hg => Below.heap_alloc _ _ _ (World.ownsRow.lt HO1.out _ hg).2)
  have hms := Mach.start (w1.alloc (.cells #[.slice a1 n c1, .int .i64 1] 27)) w.heap.size n c1 a1 (by rw [hX1]; omega) hoX
  rw [hX1] at hms
  have hbZ : Below w.heap.size w ((w1.alloc (.cells #[.slice a1 n c1, .int .i64 1] 27)).alloc (.cells ((Try.zeroCells114.setIfInBounds 0 (.slice a1 n c1)).setIfInBounds 1 (.int .i64 1)) 114)) := Below.allocs (Below.allocs HB1.out)
  have hboxZ : Box2 ((w1.alloc (.cells #[.slice a1 n c1, .int .i64 1] 27)).alloc (.cells ((Try.zeroCells114.setIfInBounds 0 (.slice a1 n c1)).setIfInBounds 1 (.int .i64 1)) 114)) w.heap.size (.slice none 0 0) (.int .i64 0) := (HB0.out.next (Below.allocs (Below.refl _ _))).next (Below.allocs (Below.refl _ _))
  have hns : (((w1.alloc (.cells #[.slice a1 n c1, .int .i64 1] 27)).alloc (.cells ((Try.zeroCells114.setIfInBounds 0 (.slice a1 n c1)).setIfInBounds 1 (.int .i64 1)) 114))).heap.size = w1.heap.size + 2 := by simp
  have hbg : ∀ g, (Value.slice a1 n c1).ownBlock = some g → w.heap.size < g := fun g hg => by have := (World.ownsRow.lt HO1.out _ hg).1; omega
  have HMS := Lib.hide hms
  have HBZ := Lib.hide hbZ
  have HBX := Lib.hide hboxZ
  have HNS := Lib.hide hns
  have HBG := Lib.hide hbg
  clear hoX hms hbZ hboxZ hns hbg hX1
  go_wp2_with (first
    | (at_make; refine wpList_make_own _ rfl _ _ 62 rfl (w.heap.size + 1) 74 iA _ 7 Try.underlying62 hiA hA0 hA1 .i64 .i64 (L : Int) L rfl rfl rfl (by rw [hA2]; omega) (by unfold maxLen; omega) (by rw [HNS.out]; omega) ?_; intro w2 ho2 hg2)
    | go_in)
  have hW2 : Below (w1.heap.size + 2) (((w1.alloc (.cells #[.slice a1 n c1, .int .i64 1] 27)).alloc (.cells ((Try.zeroCells114.setIfInBounds 0 (.slice a1 n c1)).setIfInBounds 1 (.int .i64 1)) 114))) w2 := ⟨hg2.os, hg2.tape, hg2.output, by have := hg2.size; rw [HNS.out] at this; rw [HNS.out]; exact this, fun k hk => hg2.block k (by rw [HNS.out]; exact hk) (by simp)⟩
  have hm2 := HMS.out.next (w' := w2) (by rw [HNS.out]; exact hW2)
  have hr0 : RunSt w (w1.heap.size + 1) n l 0 (w1.heap.size + 1 + 1) L w2 := by
    refine ⟨⟨[], Mc.init n, [], _, _, hm2, by simpa using RunC.nil, ?_, ?_, ?_, rfl⟩, HBZ.out.trans (hW2.mono (by omega)), HBX.out.next (by rw [HNS.out]; exact hW2)⟩
    · rw [HNS.out] at ho2; exact ho2
    · rw [if_neg (by omega), if_neg (fun e => by have := (World.ownsRow.lt HO1.out _ e).2; omega)]
    · rw [if_neg (by omega), if_neg (fun e => by have := HBG.out _ e; omega)]
  have HR0 := Lib.hide hr0
  obtain ⟨mb, hmb⟩ : ∃ mb, w1.heap.size + 1 = mb := ⟨_, rfl⟩
  rw [hmb] at HR0 ⊢
  clear ho2 hg2 hW2 hm2 hr0 hst hmb HMS HBZ HBX HB1 HB0
  go_loopw [33, 10] (fun u v wr => ∃ i ga ca : Nat, i ≤ L ∧ u = .int .i64 i ∧ v = .slice (some ⟨ga, 0, none⟩) i ca ∧ RunSt w mb n l i ga ca wr) (fun u _ _ => L - (intOf u).toNat)
  case atStart => exact ⟨0, _, _, Nat.zero_le _, rfl, rfl, HR0.out⟩
  case round =>
    obtain ⟨i, ga, ca, hiL, rfl, rfl, hst⟩ := hrel
    obtain ⟨rs, c, lf, m, ρr, hm, hrun, hown, hga, hgw, hrl⟩ := hst.ex
    have hbel := hst.bel
    have hbox := hst.box
    by_cases hlt : i < L
    · obtain ⟨b, o, rfl, hbl, hcell⟩ := (HA.out.below hbel).resolve_left (fun e => by have := HL.out; rw [e] at this; simp at this; omega)
      have hil : i < l.length := by rw [HL.out]; exact hlt
      obtain ⟨x, hx⟩ : ∃ x, l[i]? = some x := ⟨_, List.getElem?_eq_getElem hil⟩
      obtain ⟨e0, e1, e2, e3, e4⟩ := hcell i x hx
      have htake : l.take (i + 1) = l.take i ++ [x] := by
        rw [List.take_succ_eq_append_getElem hil]
        rw [List.getElem?_eq_getElem hil] at hx
        injection hx with hx
        rw [hx]
      have HTK := Lib.hide htake
      have hgood := hrun.good h1 h2
      rw [List.length_take, Nat.min_eq_left (Nat.le_of_lt hil)] at hgood
      have hX : Below wr.heap.size wr (wr.alloc (.cells #[.int .i64 x.kind, .int .i64 x.t, .int .i64 x.a, .int .i64 x.b, .int .i64 x.n] 71)) := (by repeat (first | exact Below.refl _ _ | assumption | refine Below.drew ?_ | refine below_drewN ?_ _ | refine Below.allocs ?_ | refine Below.next ?_ (by assumption) | refine Below.setCell ?_ (by dsimp only; omega) _))
      have CP := Lib.hide (perform_any w.heap.size mb i ρr c m lf i x _ (hm.next hX) hgood (Nat.le_trans hbel.size hX.size) (by omega) (by omega))
      unfold actVal at CP
      have HRUN := Lib.hide hrun
      have HOWN := Lib.hide hown
      have HBEL := Lib.hide hbel
      have HBOX := Lib.hide hbox
      have HGA := Lib.hide hga
      have HGW := Lib.hide hgw
      have HRL := Lib.hide hrl
      have HGD := Lib.hide hgood
      have HXX := Lib.hide hX
      have HM := Lib.hide hm
      have i1 : (0 : Int) ≤ (i : Int) := by omega
      have i2 : (i : Int) < (L : Int) := by omega
      have hgl : ga < wr.heap.size := by
        rcases hown.2 with ⟨e9, _⟩ | ⟨g, cap, cur, e9, _, hg9, _⟩
        · cases e9
        · injection e9 with e9
          injection e9 with e9
          injection e9 with e9
          subst e9
          rcases Nat.lt_or_ge ga wr.heap.size with h' | h'
          · exact h'
          · rw [Array.getElem?_eq_none h'] at hg9; cases hg9
      have hws := hbel.size
      clear hst hm hrun hown hga hgw hrl hbel hbox hcell hx htake hgood hX
      go_wp2_with fail
      refine CP.out.mono ?_
      rintro e w3 ⟨r, c', m', ρ', hrel, rfl, hm3, hmv3⟩
      obtain ⟨lf', hg3⟩ := HGD.out.step (by omega) hrel
      have hsz3 := hmv3.size
      rw [show (wr.alloc (.cells #[.int .i64 x.kind, .int .i64 x.t, .int .i64 x.a, .int .i64 x.b, .int .i64 x.n] 71)).heap.size = wr.heap.size + 1 by simp] at hsz3
      have hkeep : ∀ g, g < wr.heap.size → ρr g = none → w3.heap[g]? = wr.heap[g]? := fun g hg hn => (hmv3.block g (by simp; omega) hn).trans (HXX.out.block g hg)
      have ho3 : w3.ownsRow (w.heap.size + 1) 74 7 (.slice (some ⟨ga, 0, none⟩) i ca) i (acells rs) := ownsRow_kept HOWN.out (fun g hg => by
        obtain rfl : ga = g := by injection hg
        exact hkeep ga hgl HGA.out)
      have hnone : ∀ g, g < wr.heap.size → ρr g = none → ρ' g = none := fun g hg hn => hmv3.none g (by simp; omega) hn
      have hbx3 : Box2 w3 w.heap.size (.slice none 0 0) (.int .i64 0) := HBOX.out.kept (hkeep _ HBOX.out.lt HGW.out) (by omega)
      have hbl3 : Below w.heap.size w w3 := ⟨hmv3.os.trans (HXX.out.os.trans HBEL.out.os), hmv3.tape.trans (HXX.out.tape.trans HBEL.out.tape), hmv3.output.trans (HXX.out.output.trans HBEL.out.output), by omega, fun k hk => by
        have hkr : ρr k = none := Classical.byContradiction fun hn => by have := (HM.out.low k hn).1; omega
        exact (hkeep k (by omega) hkr).trans (HBEL.out.block k hk)⟩
      have hrun3 : RunC n (l.take (i + 1)) (rs ++ [r]) c' lf' := by
        rw [HTK.out]
        refine RunC.snoc HRUN.out hrel ?_
        rw [List.length_take, Nat.min_eq_left (Nat.le_of_lt (by rw [HL.out]; exact hlt))]
        exact hg3
      have HM3 := Lib.hide hm3
      have HO3 := Lib.hide ho3
      have HNO := Lib.hide hnone
      have HBX3 := Lib.hide hbx3
      have HBL3 := Lib.hide hbl3
      have HRUN3 := Lib.hide hrun3
      have HS3 := Lib.hide hsz3
      unfold ansVal
      clear hrel hm3 hmv3 hg3 hsz3 hkeep ho3 hnone hbx3 hbl3 hrun3 CP
      obtain ⟨x0, x1, x2, x3, x4, x5, x6⟩ := r
      dsimp only
      go_wp2_with (at_builtin; refine wpList_append_at _ rfl (.tmp 37) (.tmp 40) 62 rfl (w.heap.size + 1) 74 iA _ 7 56 Try.underlying62 hiA hA0 hA1 hA2 rfl (by decide) _ i (acells rs) rfl (World.ownsRow.alloc HO3.out _) ⟨w3.heap.size, 0, none⟩ 1 1 (ansCells ⟨x0, x1, x2, x3, x4, x5, x6⟩) rfl rfl (ans_new w3 ⟨x0, x1, x2, x3, x4, x5, x6⟩ _) ?c2 ?c3 ?c4 ?c5 ?_)
      case c2 => intro u hu; simp [ansCells] at hu; rcases hu with rfl | rfl | rfl | rfl | rfl | rfl | rfl <;> rfl
      case c3 => unfold maxLen; omega
      case c4 => omega
      case c5 => have := HS3.out; simp; omega
      intro v7 w7 ho7 hg7 hat7 _
      obtain ⟨g7, c7, cur7, rfl, _⟩ := ho7.2.resolve_left (fun h => by omega)
      have hg7s := hg7.size
      rw [show (w3.alloc (.cells #[.int .i64 x0, .bool x1, .int .i64 x2, .bool x3, .int .i64 x4, .bool x5, .int .i64 x6] 74)).heap.size = w3.heap.size + 1 by simp] at hg7s
      have hk7 : ∀ g, g < w3.heap.size → g ≠ ga → w7.heap[g]? = w3.heap[g]? := fun g hg hn => (hg7.block g (by simp; omega) (fun e => hn (by injection e))).trans (Below.heap_alloc _ _ _ hg)
      have hgan : w.heap.size + 1 ≤ ga := (World.ownsRow.lt HO3.out ga rfl).1
      have hgar : ρ' ga = none := HNO.out ga hgl HGA.out
      have hm7 : Mach w7 w.heap.size mb (i + 1) ρ' c' m' := HM3.out.kept (fun k hk => hk7 k (HM3.out.low k hk).2 (fun e => hk (by rw [e]; exact hgar))) (by omega)
      have hr7 : ρ' g7 = none := by
        rcases hat7 g7 rfl with e | e
        · injection e with e
          rw [← e]; exact hgar
        · refine HM3.out.noRole ?_
          have : (w3.alloc (.cells #[.int .i64 x0, .bool x1, .int .i64 x2, .bool x3, .int .i64 x4, .bool x5, .int .i64 x6] 74)).heap.size = w3.heap.size + 1 := by simp
          omega
      have hb3 := HBL3.out.size
      have hs3 := HS3.out
      have hfin : RunSt w mb n l (i + 1) g7 c7 w7 := by
        refine ⟨⟨rs ++ [⟨x0, x1, x2, x3, x4, x5, x6⟩], c', lf', m', ρ', hm7, HRUN3.out, ?_, hr7, HNO.out _ HBOX.out.lt HGW.out, by simp [HRL.out]⟩, ⟨hg7.os.trans HBL3.out.os, hg7.tape.trans HBL3.out.tape, hg7.output.trans HBL3.out.output, by omega, fun k hk => (hk7 k (by omega) (by omega)).trans (HBL3.out.block k hk)⟩, HBX3.out.kept (hk7 _ HBX3.out.lt (by omega)) (by omega)⟩
        rw [acells_snoc]
        exact ho7
      have HFIN := Lib.hide hfin
      clear ho7 hg7 hat7 hk7 hm7 hfin
      go_wp2
      go_roundw
      case rel => exact ⟨i + 1, g7, c7, by omega, by go_num, rfl, HFIN.out⟩
      case measure => simp [intOf]; omega
    · obtain rfl : i = L := by omega
      have q0 := hm.blk.words
      have q1 := hm.blk.top
      have ql := hm.blk.lt
      obtain ⟨b0, b1, b2, b3, b4⟩ := hbox
      have hnm : w.heap.size ≠ mb := fun e => by rw [e, hm.rmb] at hgw; cases hgw
      have htk : l.take i = l := List.take_of_length_le (by rw [HL.out]; exact Nat.le_refl _)
      rw [htk] at hrun
      have hp : RunYes w n l (.returned (.tuple #[.slice (some ⟨ga, 0, none⟩) i ca, .agg #[.slice m.wa c.xs.length m.wcap, .int .i64 c.top], .int .i64 0])) ((wr.setCell ⟨w.heap.size, 0, none⟩ (.slice m.wa c.xs.length m.wcap)).setCell ⟨w.heap.size, 1, none⟩ (.int .i64 c.top)).drew := by
        refine ⟨rs, c, lf, some ⟨ga, 0, none⟩, ca, m.wa, m.wcap, by rw [hrl], hrun, ?_, ?_, ?_⟩
        · unfold OwnA
          rw [hrl]
          refine ownsRow_kept (w := wr) (ownsRow_base hown (Nat.le_succ _)) (fun g hg => ?_)
          have := (World.ownsRow.lt hown g hg).1
          exact (set_other _ _ _ _ _ (by omega)).trans (set_other _ _ _ _ _ (by omega))
        · refine ownsRow_kept (w := wr) hm.words (fun g hg => ?_)
          have hne : g ≠ w.heap.size := fun e => by have := hm.rwords g hg; rw [e, hgw] at this; cases this
          exact (set_other _ _ _ _ _ hne).trans (set_other _ _ _ _ _ hne)
        · exact ((hbel.setCell (p := ⟨w.heap.size, 0, none⟩) (Nat.le_refl _) _).setCell (p := ⟨w.heap.size, 1, none⟩) (Nat.le_refl _) _).drew
      have HP := Lib.hide hp
      clear hst hm hrun hown hga hgw hrl hbel hp htk
      go_wp2
      go_region
      go_wp2
      refine bodyPost_ret (v := .tuple #[.slice (some ⟨ga, 0, none⟩) i ca, .agg #[.slice m.wa c.xs.length m.wcap, .int .i64 c.top], .int .i64 0]) (by simp only [results, Try.results32]; go_simp) rfl ?_
      exact HP.out
end Go.Proofs.Ytpdcaoagpjcgbab

