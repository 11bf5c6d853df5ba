/-
  Plain mathematics of threads with transactions, without addresses: acts, answers, and what each act does to a store of committed objects and to the threads. No program is named here. It proves no statement by itself.
-/
import Derived.Test.YtpdcaoagpjcgbabGcB
import Derived.Test.YtpdcaoagpjcgbabMapA
set_option linter.unusedVariables false
set_option linter.unusedSimpArgs false
namespace Go.Proofs.Ytpdcaoagpjcgbab.Stm

/-- An act of a script. -/
structure Act where
  kind : Int
  t : Int
  a : Int
  b : Int
  n : Int

/-- An answer to an act. -/
structure Ans where
  code : Int
  isNum : Bool
  number : Int
  yes : Bool
  words : Int
  going : Bool
  freed : Int

def Ans.err (e : Int) : Ans := ⟨e, false, 0, false, 0, false, 0⟩
def Ans.ok : Ans := Ans.err 0
def Ans.num (z : Int) : Ans := ⟨0, true, z, false, 0, false, 0⟩
def Ans.same (b : Bool) : Ans := ⟨0, false, 0, b, 0, false, 0⟩

def usesB (k : Int) : Prop := k = 5 ∨ k = 6 ∨ k = 8 ∨ k = 9
def usesA (k : Int) : Prop := k = 4 ∨ k = 7 ∨ usesB k
def In4 (x : Int) : Prop := 0 ≤ x ∧ x < 4
instance (k : Int) : Decidable (usesB k) := by unfold usesB; infer_instance
instance (k : Int) : Decidable (usesA k) := by unfold usesA; infer_instance
instance (x : Int) : Decidable (In4 x) := by unfold In4; infer_instance

/-- What is checked of an act before the state of its thread. -/
def firstErr (a : Act) : Int :=
  if a.kind < 1 ∨ 12 < a.kind then 3
  else if (a.kind ≤ 9 ∧ ¬ In4 a.t) ∨ (usesA a.kind ∧ ¬ In4 a.a) ∨ (usesB a.kind ∧ ¬ In4 a.b) ∨ (a.kind = 8 ∧ ¬ In4 a.n) then 2
  else 0

/-- One thing or the other. -/
def Ite (p a b : Prop) : Prop := (p → a) ∧ (¬ p → b)
theorem Ite.yes {p a b : Prop} (h : Ite p a b) (hp : p) : a := h.1 hp
theorem Ite.no {p a b : Prop} (h : Ite p a b) (hp : ¬ p) : b := h.2 hp
theorem Ite.pos {p a b : Prop} (hp : p) (h : a) : Ite p a b := ⟨fun _ => h, fun hn => absurd hp hn⟩
theorem Ite.neg {p a b : Prop} (hp : ¬ p) (h : b) : Ite p a b := ⟨fun hq => absurd hq hp, fun _ => h⟩

/-- An object's name: the thread that made it, and how many it had made. -/
abbrev Id := Nat × Nat
/-- A number, or an object. -/
abbrev AV := Int ⊕ Id

/-- An open transaction: the thread's registers and number of objects when it began; what it has read; its own copies of objects; whether something that it has read has been changed. -/
structure ATx where
  saved : Nat → AV
  cnt0 : Nat
  reads : Id → Prop
  over : Id → Option (List AV)
  stale : Prop

structure TS where
  regs : Nat → AV
  cnt : Nat
  tx : Option ATx

structure AS where
  store : Id → List AV
  th : Nat → TS

def upd {β : Type} (f : Nat → β) (i : Nat) (v : β) : Nat → β := fun j => if j = i then v else f j
def updI {β : Type} (f : Id → β) (i : Id) (v : β) : Id → β := fun j => if j = i then v else f j
theorem upd_same {β : Type} (f : Nat → β) (i : Nat) (v : β) : upd f i v i = v := by simp [upd]
theorem upd_other {β : Type} (f : Nat → β) {i j : Nat} (v : β) (h : j ≠ i) : upd f i v j = f j := by simp [upd, h]
theorem upd_id {β : Type} (f : Nat → β) (i : Nat) : upd f i (f i) = f := by
  funext j
  by_cases h : j = i
  · subst h; exact upd_same _ _ _
  · exact upd_other _ _ h
theorem upd_upd {β : Type} (f : Nat → β) (i : Nat) (v v' : β) : upd (upd f i v) i v' = upd f i v' := by
  funext j
  by_cases h : j = i
  · subst h; rw [upd_same, upd_same]
  · rw [upd_other _ _ h, upd_other _ _ h, upd_other _ _ h]
theorem updI_same {β : Type} (f : Id → β) (i : Id) (v : β) : updI f i v i = v := by simp [updI]
theorem updI_other {β : Type} (f : Id → β) {i j : Id} (v : β) (h : j ≠ i) : updI f i v j = f j := by simp [updI, h]

/-- What a transaction sees at an object. -/
def view (st : Id → List AV) (d : ATx) (i : Id) : List AV := (d.over i).getD (st i)
/-- Another thread has it. -/
def Busy (s : AS) (t : Nat) (i : Id) : Prop := ∃ u d, u ≠ t ∧ (s.th u).tx = some d ∧ (d.over i).isSome = true

/-- Undoing. -/
def undoT (d : ATx) : TS := ⟨d.saved, d.cnt0, none⟩
def setTh (s : AS) (t : Nat) (x : TS) : AS := ⟨s.store, upd s.th t x⟩

def told : AV → Ans
  | .inl z => Ans.num z
  | .inr _ => Ans.ok

def BeginA (s : AS) (t : Nat) (r : Ans) (s' : AS) : Prop :=
  match (s.th t).tx with
  | some _ => r = .err 5 ∧ s' = s
  | none => r = .ok ∧ s' = setTh s t ⟨(s.th t).regs, (s.th t).cnt, some ⟨(s.th t).regs, (s.th t).cnt, fun _ => False, fun _ => none, False⟩⟩

/-- The others' transactions, behind a commit of these objects. -/
def markT (over : Id → Option (List AV)) (x : TS) : TS := ⟨x.regs, x.cnt, x.tx.map fun d => ⟨d.saved, d.cnt0, d.reads, d.over, d.stale ∨ ∃ i, d.reads i ∧ (over i).isSome = true⟩⟩
def committed (s : AS) (t : Nat) (d : ATx) : AS := ⟨fun i => (d.over i).getD (s.store i), fun u => if u = t then ⟨(s.th t).regs, (s.th t).cnt, none⟩ else markT d.over (s.th u)⟩

def CommitA (s : AS) (t : Nat) (r : Ans) (s' : AS) : Prop :=
  match (s.th t).tx with
  | none => r = .err 5 ∧ s' = s
  | some d => Ite (d.stale ∨ ∃ i, d.reads i ∧ Busy s t i) (r = .err 6 ∧ s' = setTh s t (undoT d)) (r = .ok ∧ s' = committed s t d)

def AbortA (s : AS) (t : Nat) (r : Ans) (s' : AS) : Prop :=
  match (s.th t).tx with
  | none => r = .err 5 ∧ s' = s
  | some d => r = .ok ∧ s' = setTh s t (undoT d)

def newT (t : Nat) (x : TS) (d : ATx) (A n : Nat) : TS := ⟨upd x.regs A (.inr (t, x.cnt)), x.cnt + 1, some ⟨d.saved, d.cnt0, d.reads, updI d.over (t, x.cnt) (some (List.replicate n (.inl 0))), d.stale⟩⟩
def NewA (s : AS) (t A : Nat) (n : Int) (r : Ans) (s' : AS) : Prop :=
  match (s.th t).tx with
  | none => r = .err 5 ∧ s' = s
  | some d => Ite (0 ≤ n ∧ n ≤ 6) (r = .ok ∧ s' = setTh s t (newT t (s.th t) d A n.toNat)) (r = .err 2 ∧ s' = s)

/-- The way to an object. -/
def AccA (s : AS) (t : Nat) (v : AV) (n : Int) (r : Ans) (s' : AS) (good : ATx → Id → Prop) : Prop :=
  match (s.th t).tx, v with
  | none, _ => r = .err 5 ∧ s' = s
  | some _, .inl _ => r = .err 7 ∧ s' = s
  | some d, .inr i => Ite (0 ≤ n ∧ n < ((view s.store d i).length : Int)) (Ite (Busy s t i) (r = .err 6 ∧ s' = setTh s t (undoT d)) (good d i)) (r = .err 4 ∧ s' = s)

def getT (st : Id → List AV) (x : TS) (d : ATx) (A : Nat) (i : Id) (n : Nat) : TS := ⟨upd x.regs A ((view st d i).getD n (.inl 0)), x.cnt, some ⟨d.saved, d.cnt0, fun j => d.reads j ∨ (j = i ∧ d.over i = none), d.over, d.stale⟩⟩
def putT (st : Id → List AV) (x : TS) (d : ATx) (B : Nat) (i : Id) (n : Nat) : TS := ⟨x.regs, x.cnt, some ⟨d.saved, d.cnt0, d.reads, updI d.over i (some ((view st d i).set n (x.regs B))), d.stale⟩⟩
def GetA (s : AS) (t A B : Nat) (n : Int) (r : Ans) (s' : AS) : Prop :=
  AccA s t ((s.th t).regs B) n r s' fun d i => r = told ((view s.store d i).getD n.toNat (.inl 0)) ∧ s' = setTh s t (getT s.store (s.th t) d A i n.toNat)
def PutA (s : AS) (t A B : Nat) (n : Int) (r : Ans) (s' : AS) : Prop :=
  AccA s t ((s.th t).regs A) n r s' fun d i => r = .ok ∧ s' = setTh s t (putT s.store (s.th t) d B i n.toNat)

def setReg (x : TS) (A : Nat) (v : AV) : TS := ⟨upd x.regs A v, x.cnt, x.tx⟩
def SetA (s : AS) (t A : Nat) (n : Int) (r : Ans) (s' : AS) : Prop :=
  Ite (-1099511627776 ≤ n ∧ n ≤ 1099511627776) (r = .num n ∧ s' = setTh s t (setReg (s.th t) A (.inl n))) (r = .err 2 ∧ s' = s)
def CopyA (s : AS) (t A B u : Nat) (r : Ans) (s' : AS) : Prop :=
  Ite (u ≠ t ∧ ((s.th t).tx ≠ none ∨ (s.th u).tx ≠ none)) (r = .err 5 ∧ s' = s) (r = .ok ∧ s' = setTh s t (setReg (s.th t) A ((s.th u).regs B)))
def SameA (s : AS) (t A B : Nat) (r : Ans) (s' : AS) : Prop :=
  (r = .same (decide ((s.th t).regs A = (s.th t).regs B)) ∧ s' = s)

/-- One act. Of acts of a collection nothing is said but that the threads stay. -/
def StepA (s : AS) (a : Act) (r : Ans) (s' : AS) : Prop :=
  Ite (firstErr a = 0)
    (Ite (a.kind = 1) (BeginA s a.t.toNat r s')
    (Ite (a.kind = 2) (CommitA s a.t.toNat r s')
    (Ite (a.kind = 3) (AbortA s a.t.toNat r s')
    (Ite (a.kind = 4) (NewA s a.t.toNat a.a.toNat a.n r s')
    (Ite (a.kind = 5) (GetA s a.t.toNat a.a.toNat a.b.toNat a.n r s')
    (Ite (a.kind = 6) (PutA s a.t.toNat a.a.toNat a.b.toNat a.n r s')
    (Ite (a.kind = 7) (SetA s a.t.toNat a.a.toNat a.n r s')
    (Ite (a.kind = 8) (CopyA s a.t.toNat a.a.toNat a.b.toNat a.n.toNat r s')
    (Ite (a.kind = 9) (SameA s a.t.toNat a.a.toNat a.b.toNat r s')
    (s' = s))))))))))
    (r = .err (firstErr a) ∧ s' = s)

/-- An act of a collection, or one that tells of it. -/
def Clean (a : Act) : Prop := a.kind = 10 ∨ a.kind = 11 ∨ a.kind = 12
instance (a : Act) : Decidable (Clean a) := by unfold Clean; infer_instance

theorem firstErr_clean {a : Act} (h : Clean a) : firstErr a = 0 := by
  unfold firstErr usesA usesB
  rcases h with h | h | h <;> rw [h] <;> simp

theorem StepA.clean {s s' : AS} {a : Act} {r : Ans} (h : Clean a) : StepA s a r s' ↔ s' = s := by
  have h0 := firstErr_clean h
  unfold StepA
  rcases h with h | h | h <;> (rw [h]; simp [Ite, h0])

theorem firstErr_kind {a : Act} (h : firstErr a = 0) : 1 ≤ a.kind ∧ a.kind ≤ 12 := by
  unfold firstErr at h
  split at h
  · cases h
  · omega

theorem BeginA.det {s : AS} {t : Nat} {r r' : Ans} {s1 s2 : AS} (h : BeginA s t r s1) (h' : BeginA s t r' s2) : r = r' ∧ s1 = s2 := by
  unfold BeginA at h h'
  split at h <;> simp_all
theorem CommitA.det {s : AS} {t : Nat} {r r' : Ans} {s1 s2 : AS} (h : CommitA s t r s1) (h' : CommitA s t r' s2) : r = r' ∧ s1 = s2 := by
  unfold CommitA at h h'
  split at h
  · simp_all
  · rename_i d hd
    rw [hd] at h'
    by_cases hp : d.stale ∨ ∃ i, d.reads i ∧ Busy s t i
    · obtain ⟨rfl, rfl⟩ := h.yes hp; obtain ⟨rfl, rfl⟩ := h'.yes hp; exact ⟨rfl, rfl⟩
    · obtain ⟨rfl, rfl⟩ := h.no hp; obtain ⟨rfl, rfl⟩ := h'.no hp; exact ⟨rfl, rfl⟩
theorem AbortA.det {s : AS} {t : Nat} {r r' : Ans} {s1 s2 : AS} (h : AbortA s t r s1) (h' : AbortA s t r' s2) : r = r' ∧ s1 = s2 := by
  unfold AbortA at h h'
  split at h <;> simp_all
theorem NewA.det {s : AS} {t A : Nat} {n : Int} {r r' : Ans} {s1 s2 : AS} (h : NewA s t A n r s1) (h' : NewA s t A n r' s2) : r = r' ∧ s1 = s2 := by
  unfold NewA at h h'
  split at h
  · simp_all
  · rename_i d hd
    rw [hd] at h'
    by_cases hp : 0 ≤ n ∧ n ≤ 6
    · obtain ⟨rfl, rfl⟩ := h.yes hp; obtain ⟨rfl, rfl⟩ := h'.yes hp; exact ⟨rfl, rfl⟩
    · obtain ⟨rfl, rfl⟩ := h.no hp; obtain ⟨rfl, rfl⟩ := h'.no hp; exact ⟨rfl, rfl⟩
theorem AccA.det {s : AS} {t : Nat} {v : AV} {n : Int} {r r' : Ans} {s1 s2 : AS} {g g' : ATx → Id → Prop} (h : AccA s t v n r s1 g) (h' : AccA s t v n r' s2 g') (hg : ∀ d i, g d i → g' d i → r = r' ∧ s1 = s2) : r = r' ∧ s1 = s2 := by
  unfold AccA at h h'
  split at h
  · rename_i hd; rw [hd] at h'; simp at h'; obtain ⟨rfl, rfl⟩ := h; obtain ⟨rfl, rfl⟩ := h'; exact ⟨rfl, rfl⟩
  · rename_i hd; rw [hd] at h'; simp at h'; obtain ⟨rfl, rfl⟩ := h; obtain ⟨rfl, rfl⟩ := h'; exact ⟨rfl, rfl⟩
  · rename_i d i hd
    rw [hd] at h'
    simp only at h'
    by_cases hp : 0 ≤ n ∧ n < ((view s.store d i).length : Int)
    · have h1 := h.yes hp
      have h2 := h'.yes hp
      by_cases hb : Busy s t i
      · obtain ⟨rfl, rfl⟩ := h1.yes hb; obtain ⟨rfl, rfl⟩ := h2.yes hb; exact ⟨rfl, rfl⟩
      · exact hg d i (h1.no hb) (h2.no hb)
    · obtain ⟨rfl, rfl⟩ := h.no hp; obtain ⟨rfl, rfl⟩ := h'.no hp; exact ⟨rfl, rfl⟩

theorem StepA.det {s s1 s2 : AS} {a : Act} {r r' : Ans} (hc : ¬ Clean a) (h : StepA s a r s1) (h' : StepA s a r' s2) : r = r' ∧ s1 = s2 := by
  unfold StepA at h h'
  by_cases h0 : firstErr a = 0
  · have hk := firstErr_kind h0
    have h := h.yes h0
    have h' := h'.yes h0
    by_cases h1 : a.kind = 1
    · exact BeginA.det (h.yes h1) (h'.yes h1)
    have h := h.no h1
    have h' := h'.no h1
    by_cases h2 : a.kind = 2
    · exact CommitA.det (h.yes h2) (h'.yes h2)
    have h := h.no h2
    have h' := h'.no h2
    by_cases h3 : a.kind = 3
    · exact AbortA.det (h.yes h3) (h'.yes h3)
    have h := h.no h3
    have h' := h'.no h3
    by_cases h4 : a.kind = 4
    · exact NewA.det (h.yes h4) (h'.yes h4)
    have h := h.no h4
    have h' := h'.no h4
    by_cases h5 : a.kind = 5
    · exact AccA.det (h.yes h5) (h'.yes h5) (fun d i g g' => ⟨g.1.trans g'.1.symm, g.2.trans g'.2.symm⟩)
    have h := h.no h5
    have h' := h'.no h5
    by_cases h6 : a.kind = 6
    · exact AccA.det (h.yes h6) (h'.yes h6) (fun d i g g' => ⟨g.1.trans g'.1.symm, g.2.trans g'.2.symm⟩)
    have h := h.no h6
    have h' := h'.no h6
    by_cases h7 : a.kind = 7
    · have h := h.yes h7
      have h' := h'.yes h7
      unfold SetA at h h'
      by_cases hp : -1099511627776 ≤ a.n ∧ a.n ≤ 1099511627776
      · obtain ⟨rfl, rfl⟩ := h.yes hp; obtain ⟨rfl, rfl⟩ := h'.yes hp; exact ⟨rfl, rfl⟩
      · obtain ⟨rfl, rfl⟩ := h.no hp; obtain ⟨rfl, rfl⟩ := h'.no hp; exact ⟨rfl, rfl⟩
    have h := h.no h7
    have h' := h'.no h7
    by_cases h8 : a.kind = 8
    · have h := h.yes h8
      have h' := h'.yes h8
      unfold CopyA at h h'
      by_cases hp : a.n.toNat ≠ a.t.toNat ∧ ((s.th a.t.toNat).tx ≠ none ∨ (s.th a.n.toNat).tx ≠ none)
      · obtain ⟨rfl, rfl⟩ := h.yes hp; obtain ⟨rfl, rfl⟩ := h'.yes hp; exact ⟨rfl, rfl⟩
      · obtain ⟨rfl, rfl⟩ := h.no hp; obtain ⟨rfl, rfl⟩ := h'.no hp; exact ⟨rfl, rfl⟩
    have h := h.no h8
    have h' := h'.no h8
    by_cases h9 : a.kind = 9
    · obtain ⟨rfl, rfl⟩ := h.yes h9; obtain ⟨rfl, rfl⟩ := h'.yes h9; exact ⟨rfl, rfl⟩
    exact absurd (by unfold Clean; omega) hc
  · obtain ⟨rfl, rfl⟩ := h.no h0; obtain ⟨rfl, rfl⟩ := h'.no h0; exact ⟨rfl, rfl⟩

/-- A script. -/
def RunA : AS → List Act → List Ans → AS → Prop
  | s, [], rs, s' => rs = [] ∧ s' = s
  | s, a :: l, rs, s' => ∃ r rs1 s1, rs = r :: rs1 ∧ StepA s a r s1 ∧ RunA s1 l rs1 s'

theorem RunA.append {s1 s2 s3 : AS} {l1 l2 : List Act} {r1 r2 : List Ans} (h1 : RunA s1 l1 r1 s2) (h2 : RunA s2 l2 r2 s3) : RunA s1 (l1 ++ l2) (r1 ++ r2) s3 := by
  induction l1 generalizing s1 r1 with
  | nil => obtain ⟨rfl, rfl⟩ := h1; exact h2
  | cons a l ih =>
    obtain ⟨r, rs, s, rfl, h3, h4⟩ := h1
    exact ⟨r, rs ++ r2, s, rfl, h3, ih h4⟩
theorem RunA.one {s s' : AS} {a : Act} {r : Ans} (h : StepA s a r s') : RunA s [a] [r] s' := ⟨r, [], s', rfl, h, rfl, rfl⟩

theorem RunA.split {s s' : AS} {l1 l2 : List Act} {rs : List Ans} (h : RunA s (l1 ++ l2) rs s') : ∃ r1 r2 s1, rs = r1 ++ r2 ∧ r1.length = l1.length ∧ RunA s l1 r1 s1 ∧ RunA s1 l2 r2 s' := by
  induction l1 generalizing s rs with
  | nil => exact ⟨[], rs, s, rfl, rfl, ⟨rfl, rfl⟩, h⟩
  | cons a l ih =>
    obtain ⟨r, rs1, s1, rfl, h1, h2⟩ := h
    obtain ⟨r1, r2, s2, rfl, hl, h3, h4⟩ := ih h2
    exact ⟨r :: r1, r2, s2, rfl, by simp [hl], ⟨r, r1, s1, rfl, h1, h3⟩, h4⟩

theorem RunA.length {s s' : AS} {l : List Act} {rs : List Ans} (h : RunA s l rs s') : rs.length = l.length := by
  induction l generalizing s rs with
  | nil => obtain ⟨rfl, _⟩ := h; rfl
  | cons a l ih =>
    obtain ⟨r, rs1, s1, rfl, _, h2⟩ := h
    simp [ih h2]

theorem RunA.det {s s1 s2 : AS} {l : List Act} {r1 r2 : List Ans} (hc : ∀ a ∈ l, ¬ Clean a) (h1 : RunA s l r1 s1) (h2 : RunA s l r2 s2) : r1 = r2 ∧ s1 = s2 := by
  induction l generalizing s r1 r2 with
  | nil => obtain ⟨rfl, rfl⟩ := h1; obtain ⟨rfl, rfl⟩ := h2; exact ⟨rfl, rfl⟩
  | cons a l ih =>
    obtain ⟨x, xs, u, rfl, h3, h4⟩ := h1
    obtain ⟨y, ys, v, rfl, h5, h6⟩ := h2
    obtain ⟨rfl, rfl⟩ := StepA.det (hc a (by simp)) h3 h5
    obtain ⟨rfl, rfl⟩ := ih (fun b hb => hc b (by simp [hb])) h4 h6
    exact ⟨rfl, rfl⟩

/-- At the start: all registers are the number 0. -/
def AS.init : AS := ⟨fun _ => [], fun _ => ⟨fun _ => .inl 0, 0, none⟩⟩

theorem setTh_id (s : AS) (t : Nat) : setTh s t (s.th t) = s := by
  unfold setTh
  rw [upd_id]
theorem setTh_setTh (s : AS) (t : Nat) (x y : TS) : setTh (setTh s t x) t y = setTh s t y := by
  unfold setTh
  rw [upd_upd]
theorem setTh_th (s : AS) (t : Nat) (x : TS) : (setTh s t x).th t = x := upd_same _ _ _
theorem setTh_other (s : AS) {t u : Nat} (x : TS) (h : u ≠ t) : (setTh s t x).th u = s.th u := upd_other _ _ h
theorem setTh_store (s : AS) (t : Nat) (x : TS) : (setTh s t x).store = s.store := rfl
end Go.Proofs.Ytpdcaoagpjcgbab.Stm

/-
  Plain mathematics of the machine of threads: its state, with addresses and words, and what each act does to it. No program is named here. It proves no statement by itself.
-/
namespace Go.Proofs.Ytpdcaoagpjcgbab.Stm

/-- A value: 0 and a number, or 1 and an address. -/
structure Val where
  k : Int
  n : Int
def Val.zero : Val := ⟨0, 0⟩

/-- What an object was when a thread became its owner. -/
structure Orig where
  ver : Int
  fields : List Val

structure Tx where
  isOpen : Bool
  saved : Nat → Val
  recd : Int → Option Int
  own : Int → Option Orig
def Tx.zero : Tx := ⟨false, fun _ => .zero, fun _ => none, fun _ => none⟩

structure Coll where
  going : Bool
  ret : List Int
  left : Int
  top : Int
def Coll.zero : Coll := ⟨false, [], 0, 0⟩

/-- The machine. -/
structure Mc where
  xs : List Int
  top : Int
  regs : Nat → Nat → Val
  tx : Nat → Tx
  coll : Coll

def Mc.init (n : Nat) : Mc := ⟨List.replicate n 0, 1, fun _ _ => .zero, fun _ => .zero, .zero⟩

def wordOf (v : Val) : Int := if v.k = 0 then 2 * v.n else 2 * v.n + 1
def valOf (y : Int) : Val := if y % 2 = 1 then ⟨1, y / 2⟩ else ⟨0, y / 2⟩

/-- The fields of the object at p. -/
def valsAt (xs : List Int) (p : Nat) : List Val := (fieldsAt xs p (lenAt xs p)).map valOf

/-- Another thread owns the object. -/
def Owned (xs : List Int) (t : Nat) (p : Int) : Prop := xs.getD p.toNat 0 % 2 = 1 ∧ xs.getD p.toNat 0 ≠ 2 * (t : Int) + 1
instance (xs : List Int) (t : Nat) (p : Int) : Decidable (Owned xs t p) := by unfold Owned; infer_instance

/-- The version of an object that no other thread owns. -/
def verOf (c : Mc) (t : Nat) (p : Int) : Int :=
  match (c.tx t).own p with
  | some o => o.ver
  | none => c.xs.getD p.toNat 0 / 2

/-- The words behind an undoing. -/
structure Undone (xs : List Int) (own : Int → Option Orig) (ys : List Int) : Prop where
  len : ys.length = xs.length
  head : ∀ (p : Nat) (o : Orig), own p = some o → ys.getD p 0 = 2 * o.ver
  field : ∀ (p : Nat) (o : Orig), own p = some o → ∀ j, j < o.fields.length → ys.getD (p + 2 + j) 0 = wordOf (o.fields.getD j .zero)
  rest : ∀ j : Nat, (∀ (p : Nat) (o : Orig), own p = some o → j ≠ p ∧ ¬ (p + 2 ≤ j ∧ j < p + 2 + o.fields.length)) → ys.getD j 0 = xs.getD j 0

theorem list_ext_getD {xs ys : List Int} (h : xs.length = ys.length) (h' : ∀ j, xs.getD j 0 = ys.getD j 0) : xs = ys := by
  refine List.ext_getElem h fun i h1 h2 => ?_
  have := h' i
  simpa [List.getD_eq_getElem?_getD, List.getElem?_eq_getElem h1, List.getElem?_eq_getElem h2] using this

theorem Undone.unique {xs ys zs : List Int} {own : Int → Option Orig} (h : Undone xs own ys) (h' : Undone xs own zs) : ys = zs := by
  refine list_ext_getD (h.len.trans h'.len.symm) fun j => ?_
  by_cases hj : ∀ (p : Nat) (o : Orig), own p = some o → j ≠ p ∧ ¬ (p + 2 ≤ j ∧ j < p + 2 + o.fields.length)
  · rw [h.rest j hj, h'.rest j hj]
  · obtain ⟨p, hp⟩ := Classical.not_forall.1 hj
    obtain ⟨o, ho⟩ := Classical.not_forall.1 hp
    obtain ⟨h1, h2⟩ := Classical.not_imp.1 ho
    by_cases e : j = p
    · subst e; rw [h.head j o h1, h'.head j o h1]
    · have h3 : p + 2 ≤ j ∧ j < p + 2 + o.fields.length := Classical.byContradiction fun hn => h2 ⟨e, hn⟩
      obtain ⟨d, rfl⟩ : ∃ d, j = p + 2 + d := ⟨j - (p + 2), by omega⟩
      rw [h.field p o h1 d (by omega), h'.field p o h1 d (by omega)]

/-- The words behind a commit. -/
structure Committed (xs : List Int) (own : Int → Option Orig) (ys : List Int) : Prop where
  len : ys.length = xs.length
  head : ∀ (p : Nat) (o : Orig), own p = some o → ys.getD p 0 = 2 * (o.ver + 1)
  rest : ∀ j : Nat, own j = none → ys.getD j 0 = xs.getD j 0

theorem Committed.unique {xs ys zs : List Int} {own : Int → Option Orig} (h : Committed xs own ys) (h' : Committed xs own zs) : ys = zs := by
  refine list_ext_getD (h.len.trans h'.len.symm) fun j => ?_
  cases e : own j with
  | none => rw [h.rest j e, h'.rest j e]
  | some o => rw [h.head j o e, h'.head j o e]

def CUndo (c : Mc) (t : Nat) (c' : Mc) : Prop := ∃ ys, Undone c.xs (c.tx t).own ys ∧ c' = ⟨ys, c.top, upd c.regs t (c.tx t).saved, upd c.tx t .zero, c.coll⟩
theorem CUndo.unique {c c1 c2 : Mc} {t : Nat} (h : CUndo c t c1) (h' : CUndo c t c2) : c1 = c2 := by
  obtain ⟨ys, h1, rfl⟩ := h
  obtain ⟨zs, h2, rfl⟩ := h'
  rw [h1.unique h2]

def CBegin (c : Mc) (t : Nat) (r : Ans) (c' : Mc) : Prop :=
  Ite ((c.tx t).isOpen = true) (r = .err 5 ∧ c' = c) (r = .ok ∧ c' = ⟨c.xs, c.top, c.regs, upd c.tx t ⟨true, c.regs t, fun _ => none, fun _ => none⟩, c.coll⟩)

/-- All that the transaction has read is unchanged. -/
def Holds (c : Mc) (t : Nat) : Prop := ∀ p v, (c.tx t).recd p = some v → ¬ Owned c.xs t p ∧ verOf c t p = v

def CCommit (c : Mc) (t : Nat) (r : Ans) (c' : Mc) : Prop :=
  Ite ((c.tx t).isOpen = true)
    (Ite (Holds c t) (r = .ok ∧ ∃ ys, Committed c.xs (c.tx t).own ys ∧ c' = ⟨ys, c.top, c.regs, upd c.tx t .zero, c.coll⟩) (r = .err 6 ∧ CUndo c t c'))
    (r = .err 5 ∧ c' = c)

def CAbort (c : Mc) (t : Nat) (r : Ans) (c' : Mc) : Prop :=
  Ite ((c.tx t).isOpen = true) (r = .ok ∧ CUndo c t c') (r = .err 5 ∧ c' = c)

def CNew (c : Mc) (t A : Nat) (n : Int) (r : Ans) (c' : Mc) : Prop :=
  Ite ((c.tx t).isOpen = true)
    (Ite (0 ≤ n ∧ n ≤ 6)
      (Ite (2 + n ≤ c.xs.length - c.top) (r = .ok ∧ c' = ⟨c.xs.set (c.top.toNat + 1) n, c.top + (2 + n), upd c.regs t (upd (c.regs t) A ⟨1, c.top⟩), c.tx, c.coll⟩) (r = .err 1 ∧ c' = c))
      (r = .err 2 ∧ c' = c))
    (r = .err 5 ∧ c' = c)

/-- The way to an object. -/
def CAcc (c : Mc) (l : List Nat) (t : Nat) (v : Val) (n : Int) (r : Ans) (c' : Mc) (good : Prop) : Prop :=
  Ite ((c.tx t).isOpen = true)
    (Ite (v.k = 1 ∧ v.n ≠ 0)
      (Ite (v.n ∈ nums l ∧ 0 ≤ n ∧ n < c.xs.getD (v.n.toNat + 1) 0)
        (Ite (Owned c.xs t v.n) (r = .err 6 ∧ CUndo c t c') good)
        (r = .err 4 ∧ c' = c))
      (r = .err 7 ∧ c' = c))
    (r = .err 5 ∧ c' = c)

def ctold (v : Val) : Ans := if v.k = 0 then .num v.n else .ok

/-- A transaction that has recorded an object. -/
def recTx (c : Mc) (t : Nat) (p : Int) : Tx :=
  if (c.tx t).own p = none ∧ (c.tx t).recd p = none then ⟨(c.tx t).isOpen, (c.tx t).saved, setAt (c.tx t).recd p (some (verOf c t p)), (c.tx t).own⟩ else c.tx t
def getMc (c : Mc) (t A : Nat) (p : Int) (n : Nat) : Mc := ⟨c.xs, c.top, upd c.regs t (upd (c.regs t) A (valOf (c.xs.getD (p.toNat + 2 + n) 0))), upd c.tx t (recTx c t p), c.coll⟩
def CGet (c : Mc) (l : List Nat) (t A B : Nat) (n : Int) (r : Ans) (c' : Mc) : Prop :=
  CAcc c l t (c.regs t B) n r c' (r = ctold (valOf (c.xs.getD ((c.regs t B).n.toNat + 2 + n.toNat) 0)) ∧ c' = getMc c t A (c.regs t B).n n.toNat)

/-- A thread that owns an object. -/
def ownTx (c : Mc) (t : Nat) (p : Int) : Tx :=
  if (c.tx t).own p = none then ⟨(c.tx t).isOpen, (c.tx t).saved, (c.tx t).recd, setAt (c.tx t).own p (some ⟨verOf c t p, valsAt c.xs p.toNat⟩)⟩ else c.tx t
def ownXs (c : Mc) (t : Nat) (p : Int) : List Int := if (c.tx t).own p = none then c.xs.set p.toNat (2 * (t : Int) + 1) else c.xs
def ownMc (c : Mc) (t : Nat) (p : Int) : Mc := ⟨ownXs c t p, c.top, c.regs, upd c.tx t (ownTx c t p), c.coll⟩
def putMc (c : Mc) (t B : Nat) (p : Int) (n : Nat) : Mc := ⟨(ownXs c t p).set (p.toNat + 2 + n) (wordOf (c.regs t B)), c.top, c.regs, upd c.tx t (ownTx c t p), c.coll⟩
def CPut (c : Mc) (l : List Nat) (t A B : Nat) (n : Int) (r : Ans) (c' : Mc) : Prop :=
  CAcc c l t (c.regs t A) n r c' (r = .ok ∧ c' = putMc c t B (c.regs t A).n n.toNat)

def CSet (c : Mc) (t A : Nat) (n : Int) (r : Ans) (c' : Mc) : Prop :=
  Ite (-1099511627776 ≤ n ∧ n ≤ 1099511627776) (r = .num n ∧ c' = ⟨c.xs, c.top, upd c.regs t (upd (c.regs t) A ⟨0, n⟩), c.tx, c.coll⟩) (r = .err 2 ∧ c' = c)
def CCopy (c : Mc) (t A B u : Nat) (r : Ans) (c' : Mc) : Prop :=
  Ite (u ≠ t ∧ ((c.tx t).isOpen = true ∨ (c.tx u).isOpen = true)) (r = .err 5 ∧ c' = c) (r = .ok ∧ c' = ⟨c.xs, c.top, upd c.regs t (upd (c.regs t) A (c.regs u B)), c.tx, c.coll⟩)
def valEq (v v' : Val) : Bool := v.k == v'.k && v.n == v'.n
def CSame (c : Mc) (t A B : Nat) (r : Ans) (c' : Mc) : Prop := r = .same (valEq (c.regs t A) (c.regs t B)) ∧ c' = c

/-- All that threads hold. -/
def HeldVal (c : Mc) (v : Val) : Prop := (∃ t r, t < 4 ∧ r < 4 ∧ c.regs t r = v) ∨ (∃ t r, t < 4 ∧ r < 4 ∧ (c.tx t).saved r = v) ∨ (∃ t p o, t < 4 ∧ (c.tx t).own p = some o ∧ v ∈ o.fields)
def HeldKey (c : Mc) (p : Int) : Prop := ∃ t, t < 4 ∧ ((∃ v, (c.tx t).recd p = some v) ∨ ∃ o, (c.tx t).own p = some o)
def IsRoot (c : Mc) (q : Int) : Prop := HeldVal c ⟨1, q⟩ ∨ HeldKey c q

def CCollect (c : Mc) (l : List Nat) (r : Ans) (c' : Mc) : Prop :=
  Ite (c.coll.going = true) (r = .err 5 ∧ c' = c)
    (r = .ok ∧ ∃ rs zs, (∀ q, q ∈ rs ↔ IsRoot c q) ∧ ReachOf c.xs l rs zs ∧ c' = ⟨c.xs, c.top, c.regs, c.tx, ⟨true, zs, zs.length, c.top⟩⟩)

/-- What a collection that is going on will keep. -/
def keepL (c : Mc) (l : List Nat) : List Int := if c.coll.going = true then c.coll.ret ++ (nums l).filter (fun q => decide (c.coll.top ≤ q)) else nums l

/-- Where an address goes. -/
def mvN (m : Int → Option Int) (p : Int) : Int := (m p).getD 0
def mvV (m : Int → Option Int) (v : Val) : Val := if v.k = 1 then ⟨1, mvN m v.n⟩ else v
/-- Keys that have moved. -/
def MvKeys {α : Type} (m : Int → Option Int) (g : α → α) (f f' : Int → Option α) : Prop := ∀ q v, f' q = some v ↔ ∃ p u, f p = some u ∧ mvN m p = q ∧ g u = v
structure MvTx (m : Int → Option Int) (x x' : Tx) : Prop where
  isOpen : x'.isOpen = x.isOpen
  saved : ∀ r, x'.saved r = mvV m (x.saved r)
  recd : MvKeys m id x.recd x'.recd
  own : MvKeys m (fun o : Orig => ⟨o.ver, o.fields.map (mvV m)⟩) x.own x'.own

theorem MvKeys.unique {α : Type} {m : Int → Option Int} {g : α → α} {f f1 f2 : Int → Option α} (h1 : MvKeys m g f f1) (h2 : MvKeys m g f f2) : f1 = f2 := by
  funext q
  apply Option.ext
  intro v
  rw [h1 q v, h2 q v]
theorem MvTx.unique {m : Int → Option Int} {x x1 x2 : Tx} (h1 : MvTx m x x1) (h2 : MvTx m x x2) : x1 = x2 := by
  obtain ⟨a1, b1, c1, d1⟩ := x1
  obtain ⟨a2, b2, c2, d2⟩ := x2
  obtain ⟨p1, p2, p3, p4⟩ := h1
  obtain ⟨q1, q2, q3, q4⟩ := h2
  have e1 : a1 = a2 := p1.trans q1.symm
  have e2 : b1 = b2 := funext fun r => (p2 r).trans (q2 r).symm
  have e3 : c1 = c2 := p3.unique q3
  have e4 : d1 = d2 := p4.unique q4
  subst e1 e2 e3 e4
  rfl

/-- The end of a collection. -/
def CFinish (c : Mc) (l : List Nat) (freed : Int) (c' : Mc) : Prop :=
  ∃ qs m tx', keepL c l = nums qs ∧ Dest c.xs qs qs.length m ∧ (∀ t, MvTx m (c.tx t) (tx' t)) ∧ freed = c.top - (toAt c.xs qs qs.length : Nat) ∧
    c' = ⟨built c.xs.length c.xs m qs qs.length, (toAt c.xs qs qs.length : Nat), fun t r => mvV m (c.regs t r), tx', .zero⟩

def CStepC (c : Mc) (l : List Nat) (n : Int) (r : Ans) (c' : Mc) : Prop :=
  Ite (1 ≤ n ∧ n ≤ 400)
    (Ite (c.coll.going = true)
      (Ite (0 < c.coll.left - n) (r = .ok ∧ c' = ⟨c.xs, c.top, c.regs, c.tx, ⟨true, c.coll.ret, c.coll.left - n, c.coll.top⟩⟩)
        (∃ f, r = ⟨0, false, 0, false, 0, false, f⟩ ∧ CFinish c l f c'))
      (r = .err 5 ∧ c' = c))
    (r = .err 2 ∧ c' = c)
def CStat (c : Mc) (r : Ans) (c' : Mc) : Prop := r = ⟨0, false, 0, false, c.top - 1, c.coll.going, 0⟩ ∧ c' = c

/-- One act, where l are the objects of the heap. -/
def StepC (c : Mc) (l : List Nat) (a : Act) (r : Ans) (c' : Mc) : Prop :=
  Ite (firstErr a = 0)
    (Ite (a.kind = 1) (CBegin c a.t.toNat r c')
    (Ite (a.kind = 2) (CCommit c a.t.toNat r c')
    (Ite (a.kind = 3) (CAbort c a.t.toNat r c')
    (Ite (a.kind = 4) (CNew c a.t.toNat a.a.toNat a.n r c')
    (Ite (a.kind = 5) (CGet c l a.t.toNat a.a.toNat a.b.toNat a.n r c')
    (Ite (a.kind = 6) (CPut c l a.t.toNat a.a.toNat a.b.toNat a.n r c')
    (Ite (a.kind = 7) (CSet c a.t.toNat a.a.toNat a.n r c')
    (Ite (a.kind = 8) (CCopy c a.t.toNat a.a.toNat a.b.toNat a.n.toNat r c')
    (Ite (a.kind = 9) (CSame c a.t.toNat a.a.toNat a.b.toNat r c')
    (Ite (a.kind = 10) (CCollect c l r c')
    (Ite (a.kind = 11) (CStepC c l a.n r c')
    (CStat c r c'))))))))))))
    (r = .err (firstErr a) ∧ c' = c)

/-! ### Determinism -/
theorem Ite.det {p a b a' b' q : Prop} (h : Ite p a b) (h' : Ite p a' b') (h1 : p → a → a' → q) (h2 : ¬ p → b → b' → q) : q := by
  by_cases hp : p
  · exact h1 hp (h.yes hp) (h'.yes hp)
  · exact h2 hp (h.no hp) (h'.no hp)
theorem both {r r' x : Ans} {c c' y : Mc} (h : r = x ∧ c = y) (h' : r' = x ∧ c' = y) : r = r' ∧ c = c' := ⟨h.1.trans h'.1.symm, h.2.trans h'.2.symm⟩
theorem bothUndo {r r' x : Ans} {c c1 c2 : Mc} {t : Nat} (h : r = x ∧ CUndo c t c1) (h' : r' = x ∧ CUndo c t c2) : r = r' ∧ c1 = c2 := ⟨h.1.trans h'.1.symm, h.2.unique h'.2⟩

theorem Reached.congr {xs rs rs' : List Int} (h : ∀ q, q ∈ rs ↔ q ∈ rs') {q : Int} (hq : Reached xs rs q) : Reached xs rs' q := by
  induction hq with
  | root h1 h0 => exact .root ((h _).1 h1) h0
  | step _ h1 ih => exact .step ih h1
theorem ReachOf.congr {xs rs rs' zs : List Int} {l : List Nat} (h : ∀ q, q ∈ rs ↔ q ∈ rs') (hz : ReachOf xs l rs zs) : ReachOf xs l rs' zs := by
  obtain ⟨m, rfl, hm⟩ := hz
  exact ⟨m, rfl, fun q hq => (hm q hq).trans ⟨Reached.congr h, Reached.congr fun q => (h q).symm⟩⟩

theorem nums_inj {a b : List Nat} (h : nums a = nums b) : a = b := by
  unfold nums at h
  exact List.map_inj_right (fun x y e => by omega) |>.1 h

theorem CFinish.det {c c1 c2 : Mc} {l : List Nat} {f f' : Int} (h : CFinish c l f c1) (h' : CFinish c l f' c2) : f = f' ∧ c1 = c2 := by
  obtain ⟨qs, m, tx1, hk, hd, ht, rfl, rfl⟩ := h
  obtain ⟨qs', m', tx2, hk', hd', ht', rfl, rfl⟩ := h'
  obtain rfl := nums_inj (hk.symm.trans hk')
  obtain rfl := hd.unique hd'
  have e : tx1 = tx2 := funext fun t => (ht t).unique (ht' t)
  subst e
  exact ⟨rfl, rfl⟩

theorem CAcc.det {c c1 c2 : Mc} {l : List Nat} {t : Nat} {v : Val} {n : Int} {r r' : Ans} {g g' : Prop} (h : CAcc c l t v n r c1 g) (h' : CAcc c l t v n r' c2 g') (hg : g → g' → r = r' ∧ c1 = c2) : r = r' ∧ c1 = c2 :=
  Ite.det h h' (fun _ h h' => Ite.det h h' (fun _ h h' => Ite.det h h' (fun _ h h' => Ite.det h h' (fun _ h h' => bothUndo h h') (fun _ h h' => hg h h')) (fun _ h h' => both h h')) (fun _ h h' => both h h')) (fun _ h h' => both h h')

theorem StepC.det {c c1 c2 : Mc} {l : List Nat} {a : Act} {r r' : Ans} (h : StepC c l a r c1) (h' : StepC c l a r' c2) : r = r' ∧ c1 = c2 := by
  refine Ite.det h h' (fun _ h h' => ?_) (fun _ h h' => both h h')
  refine Ite.det h h' (fun _ h h' => Ite.det h h' (fun _ h h' => both h h') (fun _ h h' => both h h')) (fun _ h h' => ?_)
  refine Ite.det h h' (fun _ h h' => Ite.det h h' (fun _ h h' => Ite.det h h' (fun _ h h' => ?_) (fun _ h h' => bothUndo h h')) (fun _ h h' => both h h')) (fun _ h h' => ?_)
  · obtain ⟨rfl, ys, h1, rfl⟩ := h
    obtain ⟨rfl, zs, h2, rfl⟩ := h'
    rw [h1.unique h2]
    exact ⟨rfl, rfl⟩
  refine Ite.det h h' (fun _ h h' => Ite.det h h' (fun _ h h' => bothUndo h h') (fun _ h h' => both h h')) (fun _ h h' => ?_)
  refine Ite.det h h' (fun _ h h' => Ite.det h h' (fun _ h h' => Ite.det h h' (fun _ h h' => Ite.det h h' (fun _ h h' => both h h') (fun _ h h' => both h h')) (fun _ h h' => both h h')) (fun _ h h' => both h h')) (fun _ h h' => ?_)
  refine Ite.det h h' (fun _ h h' => CAcc.det h h' (fun h h' => both h h')) (fun _ h h' => ?_)
  refine Ite.det h h' (fun _ h h' => CAcc.det h h' (fun h h' => both h h')) (fun _ h h' => ?_)
  refine Ite.det h h' (fun _ h h' => Ite.det h h' (fun _ h h' => both h h') (fun _ h h' => both h h')) (fun _ h h' => ?_)
  refine Ite.det h h' (fun _ h h' => Ite.det h h' (fun _ h h' => both h h') (fun _ h h' => both h h')) (fun _ h h' => ?_)
  refine Ite.det h h' (fun _ h h' => both h h') (fun _ h h' => ?_)
  refine Ite.det h h' (fun _ h h' => Ite.det h h' (fun _ h h' => both h h') (fun _ h h' => ?_)) (fun _ h h' => ?_)
  · obtain ⟨rfl, rs, zs, h1, h2, rfl⟩ := h
    obtain ⟨rfl, rs', zs', h3, h4, rfl⟩ := h'
    obtain rfl := (ReachOf.congr (fun q => (h1 q).trans (h3 q).symm) h2).unique h4
    exact ⟨rfl, rfl⟩
  refine Ite.det h h' (fun _ h h' => Ite.det h h' (fun _ h h' => Ite.det h h' (fun _ h h' => Ite.det h h' (fun _ h h' => both h h') (fun _ h h' => ?_)) (fun _ h h' => both h h')) (fun _ h h' => both h h')) (fun _ h h' => both h h')
  obtain ⟨f, rfl, h1⟩ := h
  obtain ⟨f', rfl, h2⟩ := h'
  obtain ⟨rfl, rfl⟩ := h1.det h2
  exact ⟨rfl, rfl⟩
end Go.Proofs.Ytpdcaoagpjcgbab.Stm

/-
  The machine in memory: its own block of 82 cells, its words, its maps, and the fields that its transactions keep; which blocks are whose; and what stays when something is stored. It proves no statement by itself.
-/
namespace Go.Proofs.Ytpdcaoagpjcgbab
open Go.RowKit Stm

/-- Values stored one behind the other. -/
def puts (w : World) (b o : Nat) : List Value → World
  | [] => w
  | v :: vs => puts (w.setCell ⟨b, o, none⟩ v) b (o + 1) vs

theorem set_other (w : World) (b o i : Nat) (v : Value) (h : i ≠ b) : (w.setCell ⟨b, o, none⟩ v).heap[i]? = w.heap[i]? := Below.heap_setCell w ⟨b, o, none⟩ v i h
theorem set_cell_ne (w : World) (b o i : Nat) (v : Value) (h : i ≠ o) : (w.setCell ⟨b, o, none⟩ v).cell? ⟨b, i, none⟩ = w.cell? ⟨b, i, none⟩ := by
  unfold World.cell? World.setCell
  simp only [Array.getElem?_modify, if_true]
  cases hb : w.heap[b]? with
  | none => rfl
  | some ob =>
    cases ob <;> simp only [Option.map_some]
    simp [Array.getElem?_setIfInBounds, Ne.symm h]
theorem set_cell_eq (w : World) (b o : Nat) (v u : Value) (h : w.cell? ⟨b, o, none⟩ = some u) : (w.setCell ⟨b, o, none⟩ v).cell? ⟨b, o, none⟩ = some v := by
  unfold World.cell? at h ⊢
  unfold World.setCell
  simp only [Array.getElem?_modify, if_true]
  cases hb : w.heap[b]? with
  | none => rw [hb] at h; cases h
  | some ob =>
    rw [hb] at h
    cases ob <;> simp only [Option.map_some] at h ⊢ <;> try (cases h)
    simp at h ⊢
    obtain ⟨h1, h2⟩ := Array.getElem?_eq_some_iff.1 h
    simp [Array.getElem?_setIfInBounds, h1]
theorem set_frozen (w : World) (b o : Nat) (v : Value) (a : Addr) : (w.setCell ⟨b, o, none⟩ v).frozen? a = w.frozen? a := by
  unfold World.frozen? World.setCell
  simp only [Array.getElem?_modify]
  by_cases h : b = a.block
  · rw [if_pos h]
    cases hb : w.heap[a.block]? with
    | none => rfl
    | some ob => cases ob <;> simp
  · rw [if_neg h]

theorem puts_other (vs : List Value) : ∀ (w : World) (b o i : Nat), i ≠ b → (puts w b o vs).heap[i]? = w.heap[i]? := by
  induction vs with
  | nil => intro w b o i _; rfl
  | cons v vs ih =>
    intro w b o i h
    rw [puts, ih _ _ _ _ h, set_other _ _ _ _ _ h]
theorem puts_size (vs : List Value) : ∀ (w : World) (b o : Nat), (puts w b o vs).heap.size = w.heap.size := by
  induction vs with
  | nil => intro w b o; rfl
  | cons v vs ih =>
    intro w b o
    rw [puts, ih]
    simp [World.setCell]
theorem puts_frozen (vs : List Value) : ∀ (w : World) (b o : Nat) (a : Addr), (puts w b o vs).frozen? a = w.frozen? a := by
  induction vs with
  | nil => intro w b o a; rfl
  | cons v vs ih =>
    intro w b o a
    rw [puts, ih, set_frozen]
theorem puts_ne (vs : List Value) : ∀ (w : World) (b o i : Nat), i < o ∨ o + vs.length ≤ i → (puts w b o vs).cell? ⟨b, i, none⟩ = w.cell? ⟨b, i, none⟩ := by
  induction vs with
  | nil => intro w b o i _; rfl
  | cons v vs ih =>
    intro w b o i h
    simp only [List.length_cons] at h
    rw [puts, ih _ _ _ _ (by omega), set_cell_ne _ _ _ _ _ (by omega)]
theorem puts_at (vs : List Value) : ∀ (w : World) (b o j : Nat) (v : Value), vs[j]? = some v → (∀ i, i < vs.length → ∃ u, w.cell? ⟨b, o + i, none⟩ = some u) → (puts w b o vs).cell? ⟨b, o + j, none⟩ = some v := by
  induction vs with
  | nil => intro w b o j v h; simp at h
  | cons x vs ih =>
    intro w b o j v h hc
    rw [puts]
    cases j with
    | zero =>
      simp at h
      subst h
      obtain ⟨u, hu⟩ := hc 0 (by simp)
      rw [puts_ne _ _ _ _ _ (by omega)]
      exact set_cell_eq _ _ _ _ u hu
    | succ j =>
      rw [show o + (j + 1) = o + 1 + j by omega]
      refine ih _ _ _ _ _ (by simpa using h) fun i hi => ?_
      obtain ⟨u, hu⟩ := hc (i + 1) (by simpa using hi)
      exact ⟨u, by rw [set_cell_ne _ _ _ _ _ (by omega), show o + 1 + i = o + (i + 1) by omega]; exact hu⟩
theorem puts_os (vs : List Value) : ∀ (w : World) (b o : Nat), (puts w b o vs).os = w.os ∧ (puts w b o vs).tape = w.tape ∧ (puts w b o vs).output = w.output := by
  induction vs with
  | nil => intro w b o; exact ⟨rfl, rfl, rfl⟩
  | cons v vs ih => intro w b o; exact ih _ _ _

theorem puts_alloc (vs : List Value) : ∀ (w : World) (b o : Nat) (x : Obj), b < w.heap.size → puts (w.alloc x) b o vs = (puts w b o vs).alloc x := by
  induction vs with
  | nil => intro w b o x _; rfl
  | cons v vs ih =>
    intro w b o x h
    rw [puts, puts, World.setCell_alloc_past _ _ _ _ h, ih _ _ _ _ (by simpa [World.setCell] using h)]
theorem puts_drew (vs : List Value) : ∀ (w : World) (b o : Nat), puts w.drew b o vs = (puts w b o vs).drew := by
  induction vs with
  | nil => intro w b o; rfl
  | cons v vs ih => intro w b o; exact ih (w.setCell ⟨b, o, none⟩ v) b (o + 1)

/-- Whose a block is: the machine's own 0, its words 1, the retained 2; of thread t: what it has recorded 3, what it owns 4, the fields of the object p that it owns 5. -/
abbrev Role := Nat × Nat × Int
abbrev Roles := Nat → Option Role

/-- Only blocks that have a role have turned. -/
structure Moved (ρ : Roles) (w : World) (ρ' : Roles) (w' : World) : Prop where
  os : w'.os = w.os
  tape : w'.tape = w.tape
  output : w'.output = w.output
  size : w.heap.size ≤ w'.heap.size
  block : ∀ i, i < w.heap.size → ρ i = none → w'.heap[i]? = w.heap[i]?
  roles : ∀ i, i < w.heap.size → ρ' i = ρ i

theorem Moved.refl (ρ : Roles) (w : World) : Moved ρ w ρ w := ⟨rfl, rfl, rfl, Nat.le_refl _, fun _ _ _ => rfl, fun _ _ => rfl⟩
theorem Moved.trans {ρ1 ρ2 ρ3 : Roles} {a b c : World} (h : Moved ρ1 a ρ2 b) (k : Moved ρ2 b ρ3 c) : Moved ρ1 a ρ3 c :=
  ⟨k.os.trans h.os, k.tape.trans h.tape, k.output.trans h.output, Nat.le_trans h.size k.size, fun i hi hr => (k.block i (Nat.lt_of_lt_of_le hi h.size) ((h.roles i hi).trans hr)).trans (h.block i hi hr), fun i hi => (k.roles i (Nat.lt_of_lt_of_le hi h.size)).trans (h.roles i hi)⟩
theorem Moved.of_below {ρ : Roles} {w w' : World} (h : Below w.heap.size w w') : Moved ρ w ρ w' := ⟨h.os, h.tape, h.output, h.size, fun i hi _ => h.block i hi, fun _ _ => rfl⟩
theorem Moved.drew (ρ : Roles) (w : World) : Moved ρ w ρ w.drew := ⟨rfl, rfl, rfl, Nat.le_refl _, fun _ _ _ => rfl, fun _ _ => rfl⟩
theorem Moved.of_puts {ρ : Roles} {w : World} {b : Nat} (hb : ρ b ≠ none) (o : Nat) (vs : List Value) : Moved ρ w ρ (puts w b o vs) :=
  ⟨(puts_os vs w b o).1, (puts_os vs w b o).2.1, (puts_os vs w b o).2.2, Nat.le_of_eq (puts_size vs w b o).symm, fun i _ hr => puts_other vs w b o i (fun e => hb (e ▸ hr)), fun _ _ => rfl⟩
theorem Moved.of_grown {ρ : Roles} {w w' : World} {b : Nat} (h : w.grownBy w' (some b)) (hb : ρ b ≠ none) : Moved ρ w ρ w' :=
  ⟨h.os, h.tape, h.output, h.size, fun i hi hr => h.block i hi (fun e => hb (by rw [← Option.some.inj e]; exact hr)), fun _ _ => rfl⟩
theorem Moved.below {ρ ρ' : Roles} {w w' : World} {B : Nat} (h : Moved ρ w ρ' w') (hB : B ≤ w.heap.size) (hr : ∀ i, i < B → ρ i = none) : Below B w w' :=
  ⟨h.os, h.tape, h.output, h.size, fun i hi => h.block i (by omega) (hr i hi)⟩

/-- Where things lie. -/
structure Mem where
  wa : Option Addr
  wcap : Nat
  rm : Nat → Option Nat
  om : Nat → Option Nat
  fa : Nat → Int → Option Addr
  fc : Nat → Int → Nat
  ra : Option Addr
  rcap : Nat

/-- The machine's own block. -/
structure MBlk (w : World) (mb : Nat) (c : Mc) (m : Mem) : Prop where
  lt : mb < w.heap.size
  words : w.cell? ⟨mb, 0, none⟩ = some (.slice m.wa c.xs.length m.wcap)
  top : w.cell? ⟨mb, 1, none⟩ = some (.int .i64 c.top)
  regk : ∀ t r, t < 4 → r < 4 → w.cell? ⟨mb, 2 + t * 8 + r * 2, none⟩ = some (.int .i64 (c.regs t r).k)
  regn : ∀ t r, t < 4 → r < 4 → w.cell? ⟨mb, 2 + t * 8 + r * 2 + 1, none⟩ = some (.int .i64 (c.regs t r).n)
  isOpen : ∀ t, t < 4 → w.cell? ⟨mb, 34 + t * 11, none⟩ = some (.bool (c.tx t).isOpen)
  savk : ∀ t r, t < 4 → r < 4 → w.cell? ⟨mb, 34 + t * 11 + 1 + r * 2, none⟩ = some (.int .i64 ((c.tx t).saved r).k)
  savn : ∀ t r, t < 4 → r < 4 → w.cell? ⟨mb, 34 + t * 11 + 1 + r * 2 + 1, none⟩ = some (.int .i64 ((c.tx t).saved r).n)
  recd : ∀ t, t < 4 → w.cell? ⟨mb, 34 + t * 11 + 9, none⟩ = some (.map (m.rm t))
  own : ∀ t, t < 4 → w.cell? ⟨mb, 34 + t * 11 + 10, none⟩ = some (.map (m.om t))
  going : w.cell? ⟨mb, 78, none⟩ = some (.bool c.coll.going)
  ret : w.cell? ⟨mb, 79, none⟩ = some (.slice m.ra c.coll.ret.length m.rcap)
  left : w.cell? ⟨mb, 80, none⟩ = some (.int .i64 c.coll.left)
  ctop : w.cell? ⟨mb, 81, none⟩ = some (.int .i64 c.coll.top)
  warm : ∀ i, w.frozen? ⟨mb, i, none⟩ = false

theorem MBlk.kept {w w' : World} {mb : Nat} {c : Mc} {m : Mem} (h : MBlk w mb c m) (e : w'.heap[mb]? = w.heap[mb]?) (hs : w.heap.size ≤ w'.heap.size) : MBlk w' mb c m := by
  have hc : ∀ i, w'.cell? ⟨mb, i, none⟩ = w.cell? ⟨mb, i, none⟩ := fun i => World.cell?_of_block (a := ⟨mb, i, none⟩) e
  have hf : ∀ i, w'.frozen? ⟨mb, i, none⟩ = w.frozen? ⟨mb, i, none⟩ := fun i => World.frozen?_of_block (a := ⟨mb, i, none⟩) e
  exact ⟨Nat.lt_of_lt_of_le h.lt hs, by rw [hc]; exact h.words, by rw [hc]; exact h.top, fun t r ht hr => by rw [hc]; exact h.regk t r ht hr, fun t r ht hr => by rw [hc]; exact h.regn t r ht hr, fun t ht => by rw [hc]; exact h.isOpen t ht,
    fun t r ht hr => by rw [hc]; exact h.savk t r ht hr, fun t r ht hr => by rw [hc]; exact h.savn t r ht hr, fun t ht => by rw [hc]; exact h.recd t ht, fun t ht => by rw [hc]; exact h.own t ht, by rw [hc]; exact h.going, by rw [hc]; exact h.ret, by rw [hc]; exact h.left, by rw [hc]; exact h.ctop,
    fun i => by rw [hf]; exact h.warm i⟩

theorem four_cases {t : Nat} (h : t < 4) : t = 0 ∨ t = 1 ∨ t = 2 ∨ t = 3 := by omega

/-- Every cell of it is there. -/
theorem MBlk.there {w : World} {mb : Nat} {c : Mc} {m : Mem} (h : MBlk w mb c m) (i : Nat) (hi : i < 82) : ∃ u, w.cell? ⟨mb, i, none⟩ = some u := by
  rcases Nat.lt_or_ge i 2 with h1 | h1
  · rcases (show i = 0 ∨ i = 1 by omega) with rfl | rfl
    · exact ⟨_, h.words⟩
    · exact ⟨_, h.top⟩
  rcases Nat.lt_or_ge i 34 with h2 | h2
  · rcases (show (i - 2) % 2 = 0 ∨ (i - 2) % 2 = 1 by omega) with h3 | h3
    · have := h.regk ((i - 2) / 8) ((i - 2) % 8 / 2) (by omega) (by omega)
      rw [show 2 + (i - 2) / 8 * 8 + (i - 2) % 8 / 2 * 2 = i by omega] at this
      exact ⟨_, this⟩
    · have := h.regn ((i - 2) / 8) ((i - 2) % 8 / 2) (by omega) (by omega)
      rw [show 2 + (i - 2) / 8 * 8 + (i - 2) % 8 / 2 * 2 + 1 = i by omega] at this
      exact ⟨_, this⟩
  rcases Nat.lt_or_ge i 78 with h3 | h3
  · have ht : (i - 34) / 11 < 4 := by omega
    rcases Nat.lt_or_ge ((i - 34) % 11) 1 with h4 | h4
    · have := h.isOpen ((i - 34) / 11) ht
      rw [show 34 + (i - 34) / 11 * 11 = i by omega] at this
      exact ⟨_, this⟩
    rcases Nat.lt_or_ge ((i - 34) % 11) 9 with h5 | h5
    · rcases (show ((i - 34) % 11 - 1) % 2 = 0 ∨ ((i - 34) % 11 - 1) % 2 = 1 by omega) with h6 | h6
      · have := h.savk ((i - 34) / 11) (((i - 34) % 11 - 1) / 2) ht (by omega)
        rw [show 34 + (i - 34) / 11 * 11 + 1 + ((i - 34) % 11 - 1) / 2 * 2 = i by omega] at this
        exact ⟨_, this⟩
      · have := h.savn ((i - 34) / 11) (((i - 34) % 11 - 1) / 2) ht (by omega)
        rw [show 34 + (i - 34) / 11 * 11 + 1 + ((i - 34) % 11 - 1) / 2 * 2 + 1 = i by omega] at this
        exact ⟨_, this⟩
    · rcases (show (i - 34) % 11 = 9 ∨ (i - 34) % 11 = 10 by omega) with h6 | h6
      · have := h.recd ((i - 34) / 11) ht
        rw [show 34 + (i - 34) / 11 * 11 + 9 = i by omega] at this
        exact ⟨_, this⟩
      · have := h.own ((i - 34) / 11) ht
        rw [show 34 + (i - 34) / 11 * 11 + 10 = i by omega] at this
        exact ⟨_, this⟩
  · rcases (show i = 78 ∨ i = 79 ∨ i = 80 ∨ i = 81 by omega) with rfl | rfl | rfl | rfl
    · exact ⟨_, h.going⟩
    · exact ⟨_, h.ret⟩
    · exact ⟨_, h.left⟩
    · exact ⟨_, h.ctop⟩

/-- The eight cells of a thread's registers. -/
theorem MBlk.regs8 {w : World} {mb : Nat} {c : Mc} {m : Mem} (h : MBlk w mb c m) {t : Nat} (ht : t < 4) :
    w.cell? ⟨mb, 2 + t * 8, none⟩ = some (.int .i64 (c.regs t 0).k) ∧ w.cell? ⟨mb, 2 + t * 8 + 1, none⟩ = some (.int .i64 (c.regs t 0).n) ∧ w.cell? ⟨mb, 2 + t * 8 + 2, none⟩ = some (.int .i64 (c.regs t 1).k) ∧ w.cell? ⟨mb, 2 + t * 8 + 3, none⟩ = some (.int .i64 (c.regs t 1).n) ∧
    w.cell? ⟨mb, 2 + t * 8 + 4, none⟩ = some (.int .i64 (c.regs t 2).k) ∧ w.cell? ⟨mb, 2 + t * 8 + 5, none⟩ = some (.int .i64 (c.regs t 2).n) ∧ w.cell? ⟨mb, 2 + t * 8 + 6, none⟩ = some (.int .i64 (c.regs t 3).k) ∧ w.cell? ⟨mb, 2 + t * 8 + 7, none⟩ = some (.int .i64 (c.regs t 3).n) :=
  ⟨h.regk t 0 ht (by omega), h.regn t 0 ht (by omega), h.regk t 1 ht (by omega), h.regn t 1 ht (by omega), h.regk t 2 ht (by omega), h.regn t 2 ht (by omega), h.regk t 3 ht (by omega), h.regn t 3 ht (by omega)⟩
/-- The eleven cells of a transaction. -/
theorem MBlk.tx11 {w : World} {mb : Nat} {c : Mc} {m : Mem} (h : MBlk w mb c m) {t : Nat} (ht : t < 4) :
    w.cell? ⟨mb, 34 + t * 11, none⟩ = some (.bool (c.tx t).isOpen) ∧ w.cell? ⟨mb, 34 + t * 11 + 1, none⟩ = some (.int .i64 ((c.tx t).saved 0).k) ∧ w.cell? ⟨mb, 34 + t * 11 + 2, none⟩ = some (.int .i64 ((c.tx t).saved 0).n) ∧ w.cell? ⟨mb, 34 + t * 11 + 3, none⟩ = some (.int .i64 ((c.tx t).saved 1).k) ∧ w.cell? ⟨mb, 34 + t * 11 + 4, none⟩ = some (.int .i64 ((c.tx t).saved 1).n) ∧
    w.cell? ⟨mb, 34 + t * 11 + 5, none⟩ = some (.int .i64 ((c.tx t).saved 2).k) ∧ w.cell? ⟨mb, 34 + t * 11 + 6, none⟩ = some (.int .i64 ((c.tx t).saved 2).n) ∧ w.cell? ⟨mb, 34 + t * 11 + 7, none⟩ = some (.int .i64 ((c.tx t).saved 3).k) ∧ w.cell? ⟨mb, 34 + t * 11 + 8, none⟩ = some (.int .i64 ((c.tx t).saved 3).n) ∧
    w.cell? ⟨mb, 34 + t * 11 + 9, none⟩ = some (.map (m.rm t)) ∧ w.cell? ⟨mb, 34 + t * 11 + 10, none⟩ = some (.map (m.om t)) :=
  ⟨h.isOpen t ht, h.savk t 0 ht (by omega), h.savn t 0 ht (by omega), h.savk t 1 ht (by omega), h.savn t 1 ht (by omega), h.savk t 2 ht (by omega), h.savn t 2 ht (by omega), h.savk t 3 ht (by omega), h.savn t 3 ht (by omega), h.recd t ht, h.own t ht⟩
theorem MBlk.warm11 {w : World} {mb : Nat} {c : Mc} {m : Mem} (h : MBlk w mb c m) (o : Nat) : w.frozen? ⟨mb, o, none⟩ = false ∧ w.frozen? ⟨mb, o + 1, none⟩ = false ∧ w.frozen? ⟨mb, o + 2, none⟩ = false ∧ w.frozen? ⟨mb, o + 3, none⟩ = false ∧ w.frozen? ⟨mb, o + 4, none⟩ = false ∧ w.frozen? ⟨mb, o + 5, none⟩ = false ∧ w.frozen? ⟨mb, o + 6, none⟩ = false ∧ w.frozen? ⟨mb, o + 7, none⟩ = false ∧ w.frozen? ⟨mb, o + 8, none⟩ = false ∧ w.frozen? ⟨mb, o + 9, none⟩ = false ∧ w.frozen? ⟨mb, o + 10, none⟩ = false :=
  ⟨h.warm _, h.warm _, h.warm _, h.warm _, h.warm _, h.warm _, h.warm _, h.warm _, h.warm _, h.warm _, h.warm _⟩

/-- What a list of stores at o does to the machine's block: the old cells but for those, and those. -/
theorem MBlk.put {w : World} {mb : Nat} {c c' : Mc} {m m' : Mem} (h : MBlk w mb c m) (o : Nat) (vs : List Value) (ho : o + vs.length ≤ 82)
    (words : (1 ≤ o ∧ Value.slice m'.wa c'.xs.length m'.wcap = .slice m.wa c.xs.length m.wcap) ∨ (o = 0 ∧ vs[0]? = some (.slice m'.wa c'.xs.length m'.wcap)))
    (top : ((o + vs.length ≤ 1 ∨ 2 ≤ o) ∧ c'.top = c.top) ∨ ∃ j, 1 = o + j ∧ vs[j]? = some (.int .i64 c'.top))
    (regk : ∀ t r, t < 4 → r < 4 → ((2 + t * 8 + r * 2 < o ∨ o + vs.length ≤ 2 + t * 8 + r * 2) ∧ (c'.regs t r).k = (c.regs t r).k) ∨ ∃ j, 2 + t * 8 + r * 2 = o + j ∧ vs[j]? = some (.int .i64 (c'.regs t r).k))
    (regn : ∀ t r, t < 4 → r < 4 → ((2 + t * 8 + r * 2 + 1 < o ∨ o + vs.length ≤ 2 + t * 8 + r * 2 + 1) ∧ (c'.regs t r).n = (c.regs t r).n) ∨ ∃ j, 2 + t * 8 + r * 2 + 1 = o + j ∧ vs[j]? = some (.int .i64 (c'.regs t r).n))
    (isOpen : ∀ t, t < 4 → ((34 + t * 11 < o ∨ o + vs.length ≤ 34 + t * 11) ∧ (c'.tx t).isOpen = (c.tx t).isOpen) ∨ ∃ j, 34 + t * 11 = o + j ∧ vs[j]? = some (.bool (c'.tx t).isOpen))
    (savk : ∀ t r, t < 4 → r < 4 → ((34 + t * 11 + 1 + r * 2 < o ∨ o + vs.length ≤ 34 + t * 11 + 1 + r * 2) ∧ ((c'.tx t).saved r).k = ((c.tx t).saved r).k) ∨ ∃ j, 34 + t * 11 + 1 + r * 2 = o + j ∧ vs[j]? = some (.int .i64 ((c'.tx t).saved r).k))
    (savn : ∀ t r, t < 4 → r < 4 → ((34 + t * 11 + 1 + r * 2 + 1 < o ∨ o + vs.length ≤ 34 + t * 11 + 1 + r * 2 + 1) ∧ ((c'.tx t).saved r).n = ((c.tx t).saved r).n) ∨ ∃ j, 34 + t * 11 + 1 + r * 2 + 1 = o + j ∧ vs[j]? = some (.int .i64 ((c'.tx t).saved r).n))
    (recd : ∀ t, t < 4 → ((34 + t * 11 + 9 < o ∨ o + vs.length ≤ 34 + t * 11 + 9) ∧ m'.rm t = m.rm t) ∨ ∃ j, 34 + t * 11 + 9 = o + j ∧ vs[j]? = some (.map (m'.rm t)))
    (own : ∀ t, t < 4 → ((34 + t * 11 + 10 < o ∨ o + vs.length ≤ 34 + t * 11 + 10) ∧ m'.om t = m.om t) ∨ ∃ j, 34 + t * 11 + 10 = o + j ∧ vs[j]? = some (.map (m'.om t)))
    (going : ((78 < o ∨ o + vs.length ≤ 78) ∧ c'.coll.going = c.coll.going) ∨ ∃ j, 78 = o + j ∧ vs[j]? = some (.bool c'.coll.going))
    (ret : ((79 < o ∨ o + vs.length ≤ 79) ∧ Value.slice m'.ra c'.coll.ret.length m'.rcap = .slice m.ra c.coll.ret.length m.rcap) ∨ ∃ j, 79 = o + j ∧ vs[j]? = some (.slice m'.ra c'.coll.ret.length m'.rcap))
    (left : ((80 < o ∨ o + vs.length ≤ 80) ∧ c'.coll.left = c.coll.left) ∨ ∃ j, 80 = o + j ∧ vs[j]? = some (.int .i64 c'.coll.left))
    (ctop : ((81 < o ∨ o + vs.length ≤ 81) ∧ c'.coll.top = c.coll.top) ∨ ∃ j, 81 = o + j ∧ vs[j]? = some (.int .i64 c'.coll.top)) : MBlk (puts w mb o vs) mb c' m' := by
  have hth : ∀ i, i < vs.length → ∃ u, w.cell? ⟨mb, o + i, none⟩ = some u := fun i hi => h.there _ (by omega)
  have key : ∀ {p : Nat} {u u' : Value}, w.cell? ⟨mb, p, none⟩ = some u → (((p < o ∨ o + vs.length ≤ p) ∧ u' = u) ∨ ∃ j, p = o + j ∧ vs[j]? = some u') → (puts w mb o vs).cell? ⟨mb, p, none⟩ = some u' := by
    intro p u u' hu hp
    rcases hp with ⟨h1, rfl⟩ | ⟨j, rfl, h2⟩
    · rw [puts_ne _ _ _ _ _ h1]; exact hu
    · exact puts_at _ _ _ _ _ _ h2 hth
  refine ⟨by rw [puts_size]; exact h.lt, key h.words ?_, key h.top ?_, fun t r ht hr => key (h.regk t r ht hr) ?_, fun t r ht hr => key (h.regn t r ht hr) ?_, fun t ht => key (h.isOpen t ht) ?_, fun t r ht hr => key (h.savk t r ht hr) ?_, fun t r ht hr => key (h.savn t r ht hr) ?_, fun t ht => key (h.recd t ht) ?_, fun t ht => key (h.own t ht) ?_, key h.going ?_, key h.ret ?_, key h.left ?_, key h.ctop ?_, fun i => by rw [puts_frozen]; exact h.warm i⟩
  · rcases words with ⟨h1, h2⟩ | ⟨rfl, h2⟩
    · exact .inl ⟨.inl (by omega), h2⟩
    · exact .inr ⟨0, rfl, h2⟩
  · rcases top with ⟨h1, h2⟩ | h2
    · exact .inl ⟨by omega, by rw [h2]⟩
    · exact .inr h2
  · exact (regk t r ht hr).imp (fun h => ⟨h.1, by rw [h.2]⟩) id
  · exact (regn t r ht hr).imp (fun h => ⟨h.1, by rw [h.2]⟩) id
  · exact (isOpen t ht).imp (fun h => ⟨h.1, by rw [h.2]⟩) id
  · exact (savk t r ht hr).imp (fun h => ⟨h.1, by rw [h.2]⟩) id
  · exact (savn t r ht hr).imp (fun h => ⟨h.1, by rw [h.2]⟩) id
  · exact (recd t ht).imp (fun h => ⟨h.1, by rw [h.2]⟩) id
  · exact (own t ht).imp (fun h => ⟨h.1, by rw [h.2]⟩) id
  · exact going.imp (fun h => ⟨by omega, by rw [h.2]⟩) id
  · exact ret.imp (fun h => ⟨by omega, h.2⟩) id
  · exact left.imp (fun h => ⟨by omega, by rw [h.2]⟩) id
  · exact ctop.imp (fun h => ⟨by omega, by rw [h.2]⟩) id
end Go.Proofs.Ytpdcaoagpjcgbab

/-
  The machine in memory, as a whole: its block, its words, its maps and the fields that it keeps, and how each kind of store turns it. It proves no statement by itself.
-/
namespace Go.Proofs.Ytpdcaoagpjcgbab
open Go.RowKit Stm

/-- The cells of a list of values. -/
def vcells (vs : List Val) : List Value := vs.flatMap fun v => [.int .i64 v.k, .int .i64 v.n]
/-- A list of values in memory of the call's own. -/
def OwnV (w : World) (base : Nat) (v : Value) (vs : List Val) : Prop := w.ownsRow base 34 2 v vs.length (vcells vs)

def recV (f : Int → Option Int) : Int → Option Value := fun p => (f p).map (Value.int .i64)
def ownVal (o : Orig) (a : Option Addr) (c : Nat) : Value := .agg #[.int .i64 o.ver, .slice a o.fields.length c]
def ownV (f : Int → Option Orig) (fa : Int → Option Addr) (fc : Int → Nat) : Int → Option Value := fun p => (f p).map fun o => ownVal o (fa p) (fc p)

/-- A transaction's maps and fields. -/
structure TxMem (w : World) (B : Nat) (ρ : Roles) (t k : Nat) (x : Tx) (rm om : Option Nat) (fa : Int → Option Addr) (fc : Int → Nat) : Prop where
  recd : (rm = none ∧ ∀ p, x.recd p = none) ∨ ∃ b n, rm = some b ∧ n ≤ k ∧ ρ b = some (3, t, 0) ∧ MapR w b n (recV x.recd)
  own : (om = none ∧ ∀ p, x.own p = none) ∨ ∃ b n, om = some b ∧ n ≤ k ∧ ρ b = some (4, t, 0) ∧ MapR w b n (ownV x.own fa fc)
  fields : ∀ p o, x.own p = some o → OwnV w B (.slice (fa p) o.fields.length (fc p)) o.fields ∧ ∀ g, (Value.slice (fa p) o.fields.length (fc p)).ownBlock = some g → ρ g = some (5, t, p)
  opened : x.isOpen = true → rm ≠ none ∧ om ≠ none

/-- The machine: B: the blocks below are others'; k: at most so many entries in a map; ρ: whose the blocks are. -/
structure Mach (w : World) (B mb k : Nat) (ρ : Roles) (c : Mc) (m : Mem) : Prop where
  blk : MBlk w mb c m
  words : Own w B (.slice m.wa c.xs.length m.wcap) c.xs
  ret : Own w B (.slice m.ra c.coll.ret.length m.rcap) c.coll.ret
  txs : ∀ t, t < 4 → TxMem w B ρ t k (c.tx t) (m.rm t) (m.om t) (m.fa t) (m.fc t)
  rmb : ρ mb = some (0, 0, 0)
  rwords : ∀ g, (Value.slice m.wa c.xs.length m.wcap).ownBlock = some g → ρ g = some (1, 0, 0)
  rret : ∀ g, (Value.slice m.ra c.coll.ret.length m.rcap).ownBlock = some g → ρ g = some (2, 0, 0)
  low : ∀ i, ρ i ≠ none → B ≤ i ∧ i < w.heap.size

theorem ownsRow_kept {w w' : World} {B : Nat} {e : TypeId} {s n : Nat} {v : Value} {xs : List Value} (h : w.ownsRow B e s v n xs) (hb : ∀ g, v.ownBlock = some g → w'.heap[g]? = w.heap[g]?) : w'.ownsRow B e s v n xs := by
  refine ⟨h.1, ?_⟩
  rcases h.2 with h2 | ⟨g, cap, cur, hv, hg, hh, r⟩
  · exact .inl h2
  · exact .inr ⟨g, cap, cur, hv, hg, (hb g (by rw [hv]; rfl)).trans hh, r⟩

theorem TxMem.kept {w w' : World} {B : Nat} {ρ : Roles} {t k : Nat} {x : Tx} {rm om : Option Nat} {fa : Int → Option Addr} {fc : Int → Nat} (h : TxMem w B ρ t k x rm om fa fc)
    (hb : ∀ i, (ρ i = some (3, t, 0) ∨ ρ i = some (4, t, 0) ∨ ∃ p, ρ i = some (5, t, p)) → w'.heap[i]? = w.heap[i]?) : TxMem w' B ρ t k x rm om fa fc := by
  refine ⟨h.recd.imp id ?_, h.own.imp id ?_, fun p o ho => ?_, h.opened⟩
  · rintro ⟨b, n, h1, h2, h3, h4⟩
    exact ⟨b, n, h1, h2, h3, h4.kept (hb b (.inl h3))⟩
  · rintro ⟨b, n, h1, h2, h3, h4⟩
    exact ⟨b, n, h1, h2, h3, h4.kept (hb b (.inr (.inl h3)))⟩
  · obtain ⟨h1, h2⟩ := h.fields p o ho
    exact ⟨ownsRow_kept h1 (fun g hg => hb g (.inr (.inr ⟨p, h2 g hg⟩))), h2⟩

theorem TxMem.roles {w : World} {B : Nat} {ρ ρ' : Roles} {t k : Nat} {x : Tx} {rm om : Option Nat} {fa : Int → Option Addr} {fc : Int → Nat} (h : TxMem w B ρ t k x rm om fa fc) (hr : ∀ i, ρ i ≠ none → ρ' i = ρ i) : TxMem w B ρ' t k x rm om fa fc := by
  refine ⟨h.recd.imp id ?_, h.own.imp id ?_, fun p o ho => ?_, h.opened⟩
  · rintro ⟨b, n, h1, h2, h3, h4⟩
    exact ⟨b, n, h1, h2, (hr b (by rw [h3]; simp)).trans h3, h4⟩
  · rintro ⟨b, n, h1, h2, h3, h4⟩
    exact ⟨b, n, h1, h2, (hr b (by rw [h3]; simp)).trans h3, h4⟩
  · obtain ⟨h1, h2⟩ := h.fields p o ho
    exact ⟨h1, fun g hg => (hr g (by rw [h2 g hg]; simp)).trans (h2 g hg)⟩
theorem TxMem.more {w : World} {B : Nat} {ρ : Roles} {t k k' : Nat} {x : Tx} {rm om : Option Nat} {fa : Int → Option Addr} {fc : Int → Nat} (h : TxMem w B ρ t k x rm om fa fc) (hk : k ≤ k') : TxMem w B ρ t k' x rm om fa fc := by
  refine ⟨h.recd.imp id ?_, h.own.imp id ?_, h.fields, h.opened⟩
  · rintro ⟨b, n, h1, h2, h3, h4⟩
    exact ⟨b, n, h1, by omega, h3, h4⟩
  · rintro ⟨b, n, h1, h2, h3, h4⟩
    exact ⟨b, n, h1, by omega, h3, h4⟩
theorem TxMem.zero (w : World) (B : Nat) (ρ : Roles) (t k : Nat) (fa : Int → Option Addr) (fc : Int → Nat) : TxMem w B ρ t k .zero none none fa fc :=
  ⟨.inl ⟨rfl, fun _ => rfl⟩, .inl ⟨rfl, fun _ => rfl⟩, fun p o h => (by cases h), fun h => (by cases h)⟩

/-- While the machine's blocks stay, it stays. -/
theorem Mach.kept {w w' : World} {B mb k : Nat} {ρ : Roles} {c : Mc} {m : Mem} (h : Mach w B mb k ρ c m) (hb : ∀ i, ρ i ≠ none → w'.heap[i]? = w.heap[i]?) (hs : w.heap.size ≤ w'.heap.size) : Mach w' B mb k ρ c m :=
  ⟨h.blk.kept (hb mb (by rw [h.rmb]; simp)) hs, ownsRow_kept h.words (fun g hg => hb g (by rw [h.rwords g hg]; simp)), ownsRow_kept h.ret (fun g hg => hb g (by rw [h.rret g hg]; simp)), fun t ht => (h.txs t ht).kept (fun i hi => hb i (by rcases hi with h | h | ⟨p, h⟩ <;> rw [h] <;> simp)), h.rmb, h.rwords, h.rret, fun i hi => ⟨(h.low i hi).1, Nat.lt_of_lt_of_le (h.low i hi).2 hs⟩⟩
theorem Mach.next {w w' : World} {B mb k : Nat} {ρ : Roles} {c : Mc} {m : Mem} (h : Mach w B mb k ρ c m) (hb : Below w.heap.size w w') : Mach w' B mb k ρ c m := h.kept (fun i hi => hb.block i (h.low i hi).2) hb.size
theorem Mach.alloc {w : World} {B mb k : Nat} {ρ : Roles} {c : Mc} {m : Mem} (h : Mach w B mb k ρ c m) (o : Obj) : Mach (w.alloc o) B mb k ρ c m := h.next (Below.allocs (Below.refl _ _))
theorem Mach.drew {w : World} {B mb k : Nat} {ρ : Roles} {c : Mc} {m : Mem} (h : Mach w B mb k ρ c m) : Mach w.drew B mb k ρ c m := h.kept (fun _ _ => rfl) (Nat.le_refl _)
theorem Mach.drewN {w : World} {B mb k : Nat} {ρ : Roles} {c : Mc} {m : Mem} (h : Mach w B mb k ρ c m) (n : Nat) : Mach (w.drewN n) B mb k ρ c m := h.next (below_drewN (Below.refl _ _) n)
theorem Mach.roles {w : World} {B mb k : Nat} {ρ ρ' : Roles} {c : Mc} {m : Mem} (h : Mach w B mb k ρ c m) (hr : ∀ i, ρ i ≠ none → ρ' i = ρ i) (hl : ∀ i, ρ' i ≠ none → B ≤ i ∧ i < w.heap.size) : Mach w B mb k ρ' c m :=
  ⟨h.blk, h.words, h.ret, fun t ht => (h.txs t ht).roles hr, (hr mb (by rw [h.rmb]; simp)).trans h.rmb, fun g hg => (hr g (by rw [h.rwords g hg]; simp)).trans (h.rwords g hg), fun g hg => (hr g (by rw [h.rret g hg]; simp)).trans (h.rret g hg), hl⟩
theorem Mach.more {w : World} {B mb k k' : Nat} {ρ : Roles} {c : Mc} {m : Mem} (h : Mach w B mb k ρ c m) (hk : k ≤ k') : Mach w B mb k' ρ c m := { h with txs := fun t ht => (h.txs t ht).more hk }

/-- A store into the machine's own block: all else stays. -/
theorem Mach.put {w : World} {B mb k : Nat} {ρ : Roles} {c c' : Mc} {m m' : Mem} (h : Mach w B mb k ρ c m) (o : Nat) (vs : List Value) (hb : MBlk (puts w mb o vs) mb c' m')
    (hw : Own w B (.slice m'.wa c'.xs.length m'.wcap) c'.xs) (hrw : ∀ g, (Value.slice m'.wa c'.xs.length m'.wcap).ownBlock = some g → ρ g = some (1, 0, 0))
    (hr : Own w B (.slice m'.ra c'.coll.ret.length m'.rcap) c'.coll.ret) (hrr : ∀ g, (Value.slice m'.ra c'.coll.ret.length m'.rcap).ownBlock = some g → ρ g = some (2, 0, 0))
    (ht : ∀ t, t < 4 → TxMem w B ρ t k (c'.tx t) (m'.rm t) (m'.om t) (m'.fa t) (m'.fc t)) : Mach (puts w mb o vs) B mb k ρ c' m' := by
  have hne : ∀ i x, ρ i = some x → x ≠ (0, 0, 0) → (puts w mb o vs).heap[i]? = w.heap[i]? := fun i x hx hn => puts_other vs w mb o i (fun e => by
    subst e
    rw [h.rmb] at hx
    exact hn (Option.some.inj hx).symm)
  refine ⟨hb, ownsRow_kept hw (fun g hg => hne g _ (hrw g hg) (by simp)), ownsRow_kept hr (fun g hg => hne g _ (hrr g hg) (by simp)), fun t ht' => (ht t ht').kept (fun i hi => ?_), h.rmb, hrw, hrr, fun i hi => by rw [puts_size]; exact h.low i hi⟩
  rcases hi with h | h | ⟨p, h⟩ <;> exact hne i _ h (by simp)

theorem Moved.put {w : World} {B mb k : Nat} {ρ : Roles} {c : Mc} {m : Mem} (h : Mach w B mb k ρ c m) (o : Nat) (vs : List Value) : Moved ρ w ρ (puts w mb o vs) := Moved.of_puts (by rw [h.rmb]; simp) o vs

/-- A register. -/
theorem Mach.setReg {w : World} {B mb k : Nat} {ρ : Roles} {c : Mc} {m : Mem} (h : Mach w B mb k ρ c m) {t A : Nat} (ht : t < 4) (hA : A < 4) (v : Val) :
    Mach (puts w mb (2 + t * 8 + A * 2) [.int .i64 v.k, .int .i64 v.n]) B mb k ρ ⟨c.xs, c.top, upd c.regs t (upd (c.regs t) A v), c.tx, c.coll⟩ m := by
  refine h.put _ _ (h.blk.put _ _ (by simp; omega) ?_ ?_ ?_ ?_ ?_ ?_ ?_ ?_ ?_ ?_ ?_ ?_ ?_) h.words h.rwords h.ret h.rret h.txs
  · exact .inl ⟨by omega, rfl⟩
  · exact .inl ⟨by omega, rfl⟩
  · intro t' r' ht' hr'
    by_cases e : t' = t ∧ r' = A
    · obtain ⟨rfl, rfl⟩ := e
      exact .inr ⟨0, rfl, by simp [upd_same]⟩
    · refine .inl ⟨by simp only [List.length_cons, List.length_nil]; omega, ?_⟩
      by_cases e1 : t' = t
      · subst e1; simp only [upd_same]; rw [upd_other _ _ (by omega)]
      · simp only []; rw [upd_other _ _ e1]
  · intro t' r' ht' hr'
    by_cases e : t' = t ∧ r' = A
    · obtain ⟨rfl, rfl⟩ := e
      exact .inr ⟨1, rfl, by simp [upd_same]⟩
    · refine .inl ⟨by simp only [List.length_cons, List.length_nil]; omega, ?_⟩
      by_cases e1 : t' = t
      · subst e1; simp only [upd_same]; rw [upd_other _ _ (by omega)]
      · simp only []; rw [upd_other _ _ e1]
  · intro t' ht'; exact .inl ⟨by simp only [List.length_cons, List.length_nil]; omega, rfl⟩
  · intro t' r' ht' hr'; exact .inl ⟨by simp only [List.length_cons, List.length_nil]; omega, rfl⟩
  · intro t' r' ht' hr'; exact .inl ⟨by simp only [List.length_cons, List.length_nil]; omega, rfl⟩
  · intro t' ht'; exact .inl ⟨by simp only [List.length_cons, List.length_nil]; omega, rfl⟩
  · intro t' ht'; exact .inl ⟨by simp only [List.length_cons, List.length_nil]; omega, rfl⟩
  all_goals exact .inl ⟨by simp only [List.length_cons, List.length_nil]; omega, rfl⟩

def regCells (f : Nat → Val) : List Value := [.int .i64 (f 0).k, .int .i64 (f 0).n, .int .i64 (f 1).k, .int .i64 (f 1).n, .int .i64 (f 2).k, .int .i64 (f 2).n, .int .i64 (f 3).k, .int .i64 (f 3).n]
theorem regCells_k (f : Nat → Val) {r : Nat} (h : r < 4) : (regCells f)[r * 2]? = some (.int .i64 (f r).k) := by
  rcases four_cases h with rfl | rfl | rfl | rfl <;> rfl
theorem regCells_n (f : Nat → Val) {r : Nat} (h : r < 4) : (regCells f)[r * 2 + 1]? = some (.int .i64 (f r).n) := by
  rcases four_cases h with rfl | rfl | rfl | rfl <;> rfl

/-- All registers of a thread. -/
theorem Mach.setRegs {w : World} {B mb k : Nat} {ρ : Roles} {c : Mc} {m : Mem} (h : Mach w B mb k ρ c m) {t : Nat} (ht : t < 4) (f : Nat → Val) :
    Mach (puts w mb (2 + t * 8) (regCells f)) B mb k ρ ⟨c.xs, c.top, upd c.regs t f, c.tx, c.coll⟩ m := by
  have hl : (regCells f).length = 8 := rfl
  refine h.put _ _ (h.blk.put _ _ (by omega) ?_ ?_ ?_ ?_ ?_ ?_ ?_ ?_ ?_ ?_ ?_ ?_ ?_) h.words h.rwords h.ret h.rret h.txs
  · exact .inl ⟨by omega, rfl⟩
  · exact .inl ⟨by omega, rfl⟩
  · intro t' r' ht' hr'
    by_cases e1 : t' = t
    · subst e1
      exact .inr ⟨r' * 2, by omega, by simp only [upd_same]; exact regCells_k f hr'⟩
    · exact .inl ⟨by omega, by simp only []; rw [upd_other _ _ e1]⟩
  · intro t' r' ht' hr'
    by_cases e1 : t' = t
    · subst e1
      exact .inr ⟨r' * 2 + 1, by omega, by simp only [upd_same]; exact regCells_n f hr'⟩
    · exact .inl ⟨by omega, by simp only []; rw [upd_other _ _ e1]⟩
  · intro t' ht'; exact .inl ⟨by omega, rfl⟩
  · intro t' r' ht' hr'; exact .inl ⟨by omega, rfl⟩
  · intro t' r' ht' hr'; exact .inl ⟨by omega, rfl⟩
  · intro t' ht'; exact .inl ⟨by omega, rfl⟩
  · intro t' ht'; exact .inl ⟨by omega, rfl⟩
  all_goals exact .inl ⟨by omega, rfl⟩

def txCells (b : Bool) (f : Nat → Val) (rm om : Option Nat) : List Value := [.bool b, .int .i64 (f 0).k, .int .i64 (f 0).n, .int .i64 (f 1).k, .int .i64 (f 1).n, .int .i64 (f 2).k, .int .i64 (f 2).n, .int .i64 (f 3).k, .int .i64 (f 3).n, .map rm, .map om]
theorem txCells_k (b : Bool) (f : Nat → Val) (rm om : Option Nat) {r : Nat} (h : r < 4) : (txCells b f rm om)[1 + r * 2]? = some (.int .i64 (f r).k) := by
  rcases four_cases h with rfl | rfl | rfl | rfl <;> rfl
theorem txCells_n (b : Bool) (f : Nat → Val) (rm om : Option Nat) {r : Nat} (h : r < 4) : (txCells b f rm om)[1 + r * 2 + 1]? = some (.int .i64 (f r).n) := by
  rcases four_cases h with rfl | rfl | rfl | rfl <;> rfl

def Mem.setTx (m : Mem) (t : Nat) (rm om : Option Nat) (fa : Int → Option Addr) (fc : Int → Nat) : Mem := ⟨m.wa, m.wcap, upd m.rm t rm, upd m.om t om, upd m.fa t fa, upd m.fc t fc, m.ra, m.rcap⟩

/-- A whole transaction. -/
theorem Mach.setTx {w : World} {B mb k : Nat} {ρ : Roles} {c : Mc} {m : Mem} (h : Mach w B mb k ρ c m) {t : Nat} (ht : t < 4) (x : Tx) (rm om : Option Nat) (fa : Int → Option Addr) (fc : Int → Nat) (hx : TxMem w B ρ t k x rm om fa fc) :
    Mach (puts w mb (34 + t * 11) (txCells x.isOpen x.saved rm om)) B mb k ρ ⟨c.xs, c.top, c.regs, upd c.tx t x, c.coll⟩ (m.setTx t rm om fa fc) := by
  have hl : (txCells x.isOpen x.saved rm om).length = 11 := rfl
  refine h.put _ _ (h.blk.put _ _ (by omega) ?_ ?_ ?_ ?_ ?_ ?_ ?_ ?_ ?_ ?_ ?_ ?_ ?_) h.words h.rwords h.ret h.rret (fun t' ht' => ?_)
  · exact .inl ⟨by omega, rfl⟩
  · exact .inl ⟨by omega, rfl⟩
  · intro t' r' ht' hr'; exact .inl ⟨by omega, rfl⟩
  · intro t' r' ht' hr'; exact .inl ⟨by omega, rfl⟩
  · intro t' ht'
    by_cases e1 : t' = t
    · subst e1
      exact .inr ⟨0, by omega, by simp only [upd_same]; rfl⟩
    · exact .inl ⟨by omega, by simp only []; rw [upd_other _ _ e1]⟩
  · intro t' r' ht' hr'
    by_cases e1 : t' = t
    · subst e1
      exact .inr ⟨1 + r' * 2, by omega, by simp only [upd_same]; exact txCells_k _ _ _ _ hr'⟩
    · exact .inl ⟨by omega, by simp only []; rw [upd_other _ _ e1]⟩
  · intro t' r' ht' hr'
    by_cases e1 : t' = t
    · subst e1
      exact .inr ⟨1 + r' * 2 + 1, by omega, by simp only [upd_same]; exact txCells_n _ _ _ _ hr'⟩
    · exact .inl ⟨by omega, by simp only []; rw [upd_other _ _ e1]⟩
  · intro t' ht'
    by_cases e1 : t' = t
    · subst e1
      exact .inr ⟨9, by omega, by simp only [Mem.setTx, upd_same]; rfl⟩
    · exact .inl ⟨by omega, by simp only [Mem.setTx]; rw [upd_other _ _ e1]⟩
  · intro t' ht'
    by_cases e1 : t' = t
    · subst e1
      exact .inr ⟨10, by omega, by simp only [Mem.setTx, upd_same]; rfl⟩
    · exact .inl ⟨by omega, by simp only [Mem.setTx]; rw [upd_other _ _ e1]⟩
  · exact .inl ⟨by omega, rfl⟩
  · exact .inl ⟨by omega, rfl⟩
  · exact .inl ⟨by omega, rfl⟩
  · exact .inl ⟨by omega, rfl⟩
  · by_cases e1 : t' = t
    · subst e1; simp only [Mem.setTx, upd_same]; exact hx
    · simp only [Mem.setTx]; rw [upd_other _ _ e1, upd_other _ _ e1, upd_other _ _ e1, upd_other _ _ e1, upd_other _ _ e1]; exact h.txs t' ht'

/-- The words. -/
theorem Mach.setMem {w : World} {B mb k : Nat} {ρ : Roles} {c : Mc} {m : Mem} (h : Mach w B mb k ρ c m) (wa : Option Addr) (n wcap : Nat) (ys : List Int) (top : Int) (hn : ys.length = n) (hw : Own w B (.slice wa n wcap) ys) (hrw : ∀ g, (Value.slice wa n wcap).ownBlock = some g → ρ g = some (1, 0, 0)) :
    Mach (puts w mb 0 [.slice wa n wcap, .int .i64 top]) B mb k ρ ⟨ys, top, c.regs, c.tx, c.coll⟩ ⟨wa, wcap, m.rm, m.om, m.fa, m.fc, m.ra, m.rcap⟩ := by
  subst hn
  refine h.put _ _ (h.blk.put _ _ (by simp) ?_ ?_ ?_ ?_ ?_ ?_ ?_ ?_ ?_ ?_ ?_ ?_ ?_) hw hrw h.ret h.rret h.txs
  · exact .inr ⟨rfl, rfl⟩
  · exact .inr ⟨1, rfl, rfl⟩
  · intro t' r' ht' hr'; exact .inl ⟨by simp only [List.length_cons, List.length_nil]; omega, rfl⟩
  · intro t' r' ht' hr'; exact .inl ⟨by simp only [List.length_cons, List.length_nil]; omega, rfl⟩
  · intro t' ht'; exact .inl ⟨by simp only [List.length_cons, List.length_nil]; omega, rfl⟩
  · intro t' r' ht' hr'; exact .inl ⟨by simp only [List.length_cons, List.length_nil]; omega, rfl⟩
  · intro t' r' ht' hr'; exact .inl ⟨by simp only [List.length_cons, List.length_nil]; omega, rfl⟩
  · intro t' ht'; exact .inl ⟨by simp only [List.length_cons, List.length_nil]; omega, rfl⟩
  · intro t' ht'; exact .inl ⟨by simp only [List.length_cons, List.length_nil]; omega, rfl⟩
  all_goals exact .inl ⟨by simp only [List.length_cons, List.length_nil]; omega, rfl⟩

/-- The collection. -/
theorem Mach.setColl {w : World} {B mb k : Nat} {ρ : Roles} {c : Mc} {m : Mem} (h : Mach w B mb k ρ c m) (g : Bool) (ra : Option Addr) (n rcap : Nat) (zs : List Int) (left top : Int) (hn : zs.length = n) (hw : Own w B (.slice ra n rcap) zs) (hrw : ∀ g, (Value.slice ra n rcap).ownBlock = some g → ρ g = some (2, 0, 0)) :
    Mach (puts w mb 78 [.bool g, .slice ra n rcap, .int .i64 left, .int .i64 top]) B mb k ρ ⟨c.xs, c.top, c.regs, c.tx, ⟨g, zs, left, top⟩⟩ ⟨m.wa, m.wcap, m.rm, m.om, m.fa, m.fc, ra, rcap⟩ := by
  subst hn
  refine h.put _ _ (h.blk.put _ _ (by simp) ?_ ?_ ?_ ?_ ?_ ?_ ?_ ?_ ?_ ?_ ?_ ?_ ?_) h.words h.rwords hw hrw h.txs
  · exact .inl ⟨by omega, rfl⟩
  · exact .inl ⟨by omega, rfl⟩
  · intro t' r' ht' hr'; exact .inl ⟨by omega, rfl⟩
  · intro t' r' ht' hr'; exact .inl ⟨by omega, rfl⟩
  · intro t' ht'; exact .inl ⟨by omega, rfl⟩
  · intro t' r' ht' hr'; exact .inl ⟨by omega, rfl⟩
  · intro t' r' ht' hr'; exact .inl ⟨by omega, rfl⟩
  · intro t' ht'; exact .inl ⟨by omega, rfl⟩
  · intro t' ht'; exact .inl ⟨by omega, rfl⟩
  · exact .inr ⟨0, rfl, rfl⟩
  · exact .inr ⟨1, rfl, rfl⟩
  · exact .inr ⟨2, rfl, rfl⟩
  · exact .inr ⟨3, rfl, rfl⟩
theorem Mach.setLeft {w : World} {B mb k : Nat} {ρ : Roles} {c : Mc} {m : Mem} (h : Mach w B mb k ρ c m) (left : Int) :
    Mach (puts w mb 80 [.int .i64 left]) B mb k ρ ⟨c.xs, c.top, c.regs, c.tx, ⟨c.coll.going, c.coll.ret, left, c.coll.top⟩⟩ m := by
  refine h.put _ _ (h.blk.put _ _ (by simp) ?_ ?_ ?_ ?_ ?_ ?_ ?_ ?_ ?_ ?_ ?_ ?_ ?_) h.words h.rwords h.ret h.rret h.txs
  · exact .inl ⟨by omega, rfl⟩
  · exact .inl ⟨by omega, rfl⟩
  · intro t' r' ht' hr'; exact .inl ⟨by omega, rfl⟩
  · intro t' r' ht' hr'; exact .inl ⟨by omega, rfl⟩
  · intro t' ht'; exact .inl ⟨by omega, rfl⟩
  · intro t' r' ht' hr'; exact .inl ⟨by omega, rfl⟩
  · intro t' r' ht' hr'; exact .inl ⟨by omega, rfl⟩
  · intro t' ht'; exact .inl ⟨by omega, rfl⟩
  · intro t' ht'; exact .inl ⟨by omega, rfl⟩
  · exact .inl ⟨by omega, rfl⟩
  · exact .inl ⟨by omega, rfl⟩
  · exact .inr ⟨0, rfl, rfl⟩
  · exact .inl ⟨by simp, rfl⟩

/-- The stores, written out. -/
theorem puts_one (w : World) (b o : Nat) (x : Value) : puts w b o [x] = w.setCell ⟨b, o, none⟩ x := rfl
theorem puts_two (w : World) (b o : Nat) (x y : Value) : puts w b o [x, y] = ((w.setCell ⟨b, o, none⟩ x).setCell ⟨b, o + 1, none⟩ y) := rfl
theorem puts_four (w : World) (b o : Nat) (x y z u : Value) : puts w b o [x, y, z, u] = ((((w.setCell ⟨b, o, none⟩ x).setCell ⟨b, o + 1, none⟩ y).setCell ⟨b, o + 2, none⟩ z).setCell ⟨b, o + 3, none⟩ u) := rfl
theorem puts_regs (w : World) (b o : Nat) (f : Nat → Val) : puts w b o (regCells f) = ((((((((w.setCell ⟨b, o, none⟩ (.int .i64 (f 0).k)).setCell ⟨b, o + 1, none⟩ (.int .i64 (f 0).n)).setCell ⟨b, o + 2, none⟩ (.int .i64 (f 1).k)).setCell ⟨b, o + 3, none⟩ (.int .i64 (f 1).n)).setCell ⟨b, o + 4, none⟩ (.int .i64 (f 2).k)).setCell ⟨b, o + 5, none⟩ (.int .i64 (f 2).n)).setCell ⟨b, o + 6, none⟩ (.int .i64 (f 3).k)).setCell ⟨b, o + 7, none⟩ (.int .i64 (f 3).n)) := rfl
theorem puts_tx (w : World) (b o : Nat) (q : Bool) (f : Nat → Val) (rm om : Option Nat) : puts w b o (txCells q f rm om) = (((((((((((w.setCell ⟨b, o, none⟩ (.bool q)).setCell ⟨b, o + 1, none⟩ (.int .i64 (f 0).k)).setCell ⟨b, o + 2, none⟩ (.int .i64 (f 0).n)).setCell ⟨b, o + 3, none⟩ (.int .i64 (f 1).k)).setCell ⟨b, o + 4, none⟩ (.int .i64 (f 1).n)).setCell ⟨b, o + 5, none⟩ (.int .i64 (f 2).k)).setCell ⟨b, o + 6, none⟩ (.int .i64 (f 2).n)).setCell ⟨b, o + 7, none⟩ (.int .i64 (f 3).k)).setCell ⟨b, o + 8, none⟩ (.int .i64 (f 3).n)).setCell ⟨b, o + 9, none⟩ (.map rm)).setCell ⟨b, o + 10, none⟩ (.map om)) := rfl
theorem puts_txz (w : World) (b o : Nat) : puts w b o (txCells false (fun _ => .zero) none none) = (((((((((((w.setCell ⟨b, o, none⟩ (.bool false)).setCell ⟨b, o + 1, none⟩ (.int .i64 0)).setCell ⟨b, o + 2, none⟩ (.int .i64 0)).setCell ⟨b, o + 3, none⟩ (.int .i64 0)).setCell ⟨b, o + 4, none⟩ (.int .i64 0)).setCell ⟨b, o + 5, none⟩ (.int .i64 0)).setCell ⟨b, o + 6, none⟩ (.int .i64 0)).setCell ⟨b, o + 7, none⟩ (.int .i64 0)).setCell ⟨b, o + 8, none⟩ (.int .i64 0)).setCell ⟨b, o + 9, none⟩ (.map none)).setCell ⟨b, o + 10, none⟩ (.map none)) := rfl
end Go.Proofs.Ytpdcaoagpjcgbab

