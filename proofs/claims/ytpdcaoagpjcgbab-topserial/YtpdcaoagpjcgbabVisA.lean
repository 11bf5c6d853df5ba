/-
  Memory while a closure visits what threads hold: the closure's blocks have a role of their own, and stores into a row, one behind the other, are one list of stores. It proves no statement by itself.
-/
import Derived.Test.YtpdcaoagpjcgbabStmUndo
import Derived.Test.YtpdcaoagpjcgbabStmAccess
import Derived.Deep.RegionHeld3
set_option linter.unusedVariables false
set_option linter.unusedSimpArgs false
namespace Go.Proofs.Ytpdcaoagpjcgbab
open Go.RowKit Stm

theorem setCell_same {w : World} {b o : Nat} {v : Value} (h : w.cell? ⟨b, o, none⟩ = some v) : w.setCell ⟨b, o, none⟩ v = w := by
  have hh : (w.setCell ⟨b, o, none⟩ v).heap = w.heap := by
    apply Array.ext_getElem?
    intro i
    by_cases hi : i = b
    · subst hi
      unfold World.cell? at h
      unfold World.setCell
      simp only [Array.getElem?_modify, if_true]
      cases hb : w.heap[i]? with
      | none => rfl
      | some ob =>
        rw [hb] at h
        cases ob <;> simp only [Option.map_some] at h ⊢
        rename_i c e f
        simp at h ⊢
        apply Array.ext_getElem?
        intro j
        rw [Array.getElem?_setIfInBounds]
        by_cases hj : o = j
        · subst hj
          obtain ⟨hlt, _⟩ := Array.getElem?_eq_some_iff.1 h
          rw [if_pos rfl, if_pos hlt, h]
        · rw [if_neg hj]
    · exact set_other w b o i v hi
  have : w.setCell ⟨b, o, none⟩ v = { w with heap := (w.setCell ⟨b, o, none⟩ v).heap } := rfl
  rw [this, hh]

theorem setCell_swap (w : World) (b o o' : Nat) (v v' : Value) (h : o ≠ o') : (w.setCell ⟨b, o, none⟩ v).setCell ⟨b, o', none⟩ v' = (w.setCell ⟨b, o', none⟩ v').setCell ⟨b, o, none⟩ v := by
  have hh : ((w.setCell ⟨b, o, none⟩ v).setCell ⟨b, o', none⟩ v').heap = ((w.setCell ⟨b, o', none⟩ v').setCell ⟨b, o, none⟩ v).heap := by
    apply Array.ext_getElem?
    intro i
    unfold World.setCell
    simp only [Array.getElem?_modify]
    by_cases hi : b = i
    · simp only [if_pos hi]
      cases w.heap[i]? with
      | none => rfl
      | some ob =>
        cases ob <;> simp only [Option.map_some]
        simp only [Option.isSome_none, Bool.false_eq_true, if_false]
        rw [Array.setIfInBounds_comm _ _ h]
    · simp only [if_neg hi]
  have e1 : (w.setCell ⟨b, o, none⟩ v).setCell ⟨b, o', none⟩ v' = { w with heap := ((w.setCell ⟨b, o, none⟩ v).setCell ⟨b, o', none⟩ v').heap } := rfl
  have e2 : (w.setCell ⟨b, o', none⟩ v').setCell ⟨b, o, none⟩ v = { w with heap := ((w.setCell ⟨b, o', none⟩ v').setCell ⟨b, o, none⟩ v).heap } := rfl
  rw [e1, e2, hh]
theorem setCell_again (w : World) (b o : Nat) (v v' : Value) : (w.setCell ⟨b, o, none⟩ v).setCell ⟨b, o, none⟩ v' = w.setCell ⟨b, o, none⟩ v' := by
  have hh : ((w.setCell ⟨b, o, none⟩ v).setCell ⟨b, o, none⟩ v').heap = (w.setCell ⟨b, o, none⟩ v').heap := by
    apply Array.ext_getElem?
    intro i
    unfold World.setCell
    simp only [Array.getElem?_modify]
    by_cases hi : b = i
    · simp only [if_pos hi]
      cases w.heap[i]? with
      | none => rfl
      | some ob =>
        cases ob <;> simp only [Option.map_some]
        simp
    · simp only [if_neg hi]
  have e1 : (w.setCell ⟨b, o, none⟩ v).setCell ⟨b, o, none⟩ v' = { w with heap := ((w.setCell ⟨b, o, none⟩ v).setCell ⟨b, o, none⟩ v').heap } := rfl
  have e2 : w.setCell ⟨b, o, none⟩ v' = { w with heap := (w.setCell ⟨b, o, none⟩ v').heap } := rfl
  rw [e1, hh, ← e2]

theorem puts_same : ∀ (L : List Value) (w : World) (b o : Nat), (∀ j v, L[j]? = some v → w.cell? ⟨b, o + j, none⟩ = some v) → puts w b o L = w
  | [], w, b, o, _ => rfl
  | v :: L, w, b, o, h => by
    rw [puts, setCell_same (by simpa using h 0 v rfl)]
    exact puts_same L w b (o + 1) (fun j u hu => by rw [show o + 1 + j = o + (j + 1) by omega]; exact h (j + 1) u (by simpa using hu))

theorem puts_swap : ∀ (L : List Value) (w : World) (b o o' : Nat) (x : Value), o' < o → puts (w.setCell ⟨b, o', none⟩ x) b o L = (puts w b o L).setCell ⟨b, o', none⟩ x
  | [], w, b, o, o', x, _ => rfl
  | v :: L, w, b, o, o', x, h => by
    rw [puts, puts, setCell_swap _ _ _ _ _ _ (by omega)]
    exact puts_swap L _ b (o + 1) o' x (by omega)
theorem puts_set : ∀ (L : List Value) (w : World) (b o j : Nat) (x : Value), j < L.length → (puts w b o L).setCell ⟨b, o + j, none⟩ x = puts w b o (L.set j x)
  | [], w, b, o, j, x, h => absurd h (Nat.not_lt_zero _)
  | v :: L, w, b, o, 0, x, _ => by
    rw [List.set_cons_zero, puts, puts]
    show (puts (w.setCell ⟨b, o, none⟩ v) b (o + 1) L).setCell ⟨b, o, none⟩ x = _
    rw [← puts_swap L _ b (o + 1) o x (by omega), setCell_again]
  | v :: L, w, b, o, j + 1, x, h => by
    rw [List.set_cons_succ, puts, puts, ← puts_set L _ b (o + 1) j x (by simpa using h), show o + 1 + j = o + (j + 1) by omega]

/-- Only blocks of the closure have turned; new ones are the closure's or nobody's. -/
structure MovedC (ρ : Roles) (w : World) (ρ' : Roles) (w' : World) : Prop where
  os : w'.os = w.os
  tape : w'.tape = w.tape
  output : w'.output = w.output
  size : w.heap.size ≤ w'.heap.size
  block : ∀ i, i < w.heap.size → ρ i ≠ some (6, 0, 0) → w'.heap[i]? = w.heap[i]?
  roles : ∀ i, i < w.heap.size → ρ' i = ρ i
  only : ∀ i, w.heap.size ≤ i → ρ' i ≠ none → ρ' i = some (6, 0, 0) ∧ i < w'.heap.size

theorem MovedC.trans {ρ1 ρ2 ρ3 : Roles} {a b c : World} (h : MovedC ρ1 a ρ2 b) (k : MovedC ρ2 b ρ3 c) : MovedC ρ1 a ρ3 c :=
  ⟨k.os.trans h.os, k.tape.trans h.tape, k.output.trans h.output, Nat.le_trans h.size k.size, fun i hi hr => (k.block i (Nat.lt_of_lt_of_le hi h.size) (fun e => hr ((h.roles i hi).symm.trans e))).trans (h.block i hi hr),
    fun i hi => (k.roles i (Nat.lt_of_lt_of_le hi h.size)).trans (h.roles i hi), fun i hi hn => by
      rcases Nat.lt_or_ge i b.heap.size with hlt | hge
      · have e := k.roles i hlt
        rw [e] at hn ⊢
        exact ⟨(h.only i hi hn).1, Nat.lt_of_lt_of_le hlt k.size⟩
      · exact k.only i hge hn⟩
theorem MovedC.of_below {ρ : Roles} {w w' : World} (h : Below w.heap.size w w') (hl : ∀ i, ρ i ≠ none → i < w.heap.size) : MovedC ρ w ρ w' :=
  ⟨h.os, h.tape, h.output, h.size, fun i hi _ => h.block i hi, fun _ _ => rfl, fun i hi hn => absurd (hl i hn) (by omega)⟩
theorem MovedC.refl {ρ : Roles} {w : World} (hl : ∀ i, ρ i ≠ none → i < w.heap.size) : MovedC ρ w ρ w := .of_below (Below.refl _ _) hl
theorem MovedC.next {ρ ρ' : Roles} {w w1 w2 : World} (h : MovedC ρ w ρ' w1) (hb : Below w1.heap.size w1 w2) : MovedC ρ w ρ' w2 :=
  ⟨hb.os.trans h.os, hb.tape.trans h.tape, hb.output.trans h.output, Nat.le_trans h.size hb.size, fun i hi hr => (hb.block i (Nat.lt_of_lt_of_le hi h.size)).trans (h.block i hi hr), h.roles, fun i hi hn => ⟨(h.only i hi hn).1, Nat.lt_of_lt_of_le (h.only i hi hn).2 hb.size⟩⟩
theorem MovedC.low {ρ ρ' : Roles} {w w' : World} (h : MovedC ρ w ρ' w') (hl : ∀ i, ρ i ≠ none → i < w.heap.size) : ∀ i, ρ' i ≠ none → i < w'.heap.size := fun i hi => by
  rcases Nat.lt_or_ge i w.heap.size with hlt | hge
  · exact Nat.lt_of_lt_of_le hlt h.size
  · exact (h.only i hge hi).2
theorem MovedC.moved {ρ ρ' : Roles} {w w' : World} (h : MovedC ρ w ρ' w') : Moved ρ w ρ' w' := ⟨h.os, h.tape, h.output, h.size, fun i hi hn => h.block i hi (by rw [hn]; simp), h.roles⟩
/-- The same store into a block that is not the closure's. -/
theorem MovedC.stored {ρ ρ' : Roles} {w w' : World} (h : MovedC ρ w ρ' w') {b : Nat} (hb : b < w.heap.size) (hr : ρ b ≠ some (6, 0, 0)) (o : Nat) (x : Value) : MovedC ρ (w.setCell ⟨b, o, none⟩ x) ρ' (w'.setCell ⟨b, o, none⟩ x) := by
  have hs : (w.setCell ⟨b, o, none⟩ x).heap.size = w.heap.size := by simp [World.setCell]
  have hs' : (w'.setCell ⟨b, o, none⟩ x).heap.size = w'.heap.size := by simp [World.setCell]
  refine ⟨h.os, h.tape, h.output, by rw [hs, hs']; exact h.size, fun i hi hn => ?_, fun i hi => h.roles i (by rw [hs] at hi; exact hi), fun i hi hn => by rw [hs'] ; rw [hs] at hi; exact h.only i hi hn⟩
  rw [hs] at hi
  by_cases e : i = b
  · subst e
    unfold World.setCell
    simp only [Array.getElem?_modify, if_true]
    rw [h.block i hi hn]
  · rw [set_other _ _ _ _ _ e, set_other _ _ _ _ _ e]
    exact h.block i hi hn

/-- The machine stays where only the closure's blocks turn. -/
theorem Mach.keptC {w w' : World} {B mb k : Nat} {ρ : Roles} {c : Mc} {m : Mem} (h : Mach w B mb k ρ c m) (hb : ∀ i, ρ i ≠ none → ρ i ≠ some (6, 0, 0) → w'.heap[i]? = w.heap[i]?) (hs : w.heap.size ≤ w'.heap.size) : Mach w' B mb k ρ c m :=
  ⟨h.blk.kept (hb mb (by rw [h.rmb]; simp) (by rw [h.rmb]; simp)) hs, ownsRow_kept h.words (fun g hg => hb g (by rw [h.rwords g hg]; simp) (by rw [h.rwords g hg]; simp)), ownsRow_kept h.ret (fun g hg => hb g (by rw [h.rret g hg]; simp) (by rw [h.rret g hg]; simp)),
    fun t ht => (h.txs t ht).kept (fun i hi => hb i (by rcases hi with h | h | ⟨p, h⟩ <;> rw [h] <;> simp) (by rcases hi with h | h | ⟨p, h⟩ <;> rw [h] <;> simp)), h.rmb, h.rwords, h.rret, fun i hi => ⟨(h.low i hi).1, Nat.lt_of_lt_of_le (h.low i hi).2 hs⟩⟩
theorem Mach.movedC {w w' : World} {B mb k : Nat} {ρ ρ' : Roles} {c : Mc} {m : Mem} (h : Mach w B mb k ρ c m) (hm : MovedC ρ w ρ' w') (hB : B ≤ w.heap.size) : Mach w' B mb k ρ' c m :=
  (h.keptC (fun i h1 h2 => hm.block i (h.low i h1).2 h2) hm.size).roles (fun i hi => hm.roles i (h.low i hi).2) (fun i hi => by
    rcases Nat.lt_or_ge i w.heap.size with hlt | hge
    · rw [hm.roles i hlt] at hi
      exact ⟨(h.low i hi).1, Nat.lt_of_lt_of_le hlt hm.size⟩
    · exact ⟨by omega, (hm.only i hge hi).2⟩)

/-- A closure that is asked for an address, and hands another one back; it keeps account of what it was asked. -/
structure Clo (F : FuncId) (cap : Value) (I : World → Roles → List Int → Prop) (f : Int → Int) : Prop where
  call : ∀ w ρ s p, I w ρ s → (∀ i, ρ i ≠ none → i < w.heap.size) → s.length ≤ 100000 → Fits p → Calls Try.prog F #[.int .i64 p, cap] w (fun e w' => e = .returned (.int .i64 (f p)) ∧ ∃ ρ', I w' ρ' (s ++ [p]) ∧ MovedC ρ w ρ' w')
  kept : ∀ w ρ s w' ρ', I w ρ s → (∀ i, ρ i = some (6, 0, 0) → w'.heap[i]? = w.heap[i]?) → w.heap.size ≤ w'.heap.size → (∀ i, ρ i = some (6, 0, 0) → ρ' i = some (6, 0, 0)) → I w' ρ' s
  fits : ∀ p, Fits p → Fits (f p)
  enter : ∀ (args : Array Value) (w : World), (callFunc F args).run Try.prog w = .ok (.enter F args) w

theorem Clo.below {F : FuncId} {cap : Value} {I : World → Roles → List Int → Prop} {f : Int → Int} (C : Clo F cap I f) {w w' : World} {ρ : Roles} {s : List Int} (h : I w ρ s) (hb : Below w.heap.size w w') (hl : ∀ i, ρ i ≠ none → i < w.heap.size) : I w' ρ s :=
  C.kept w ρ s w' ρ h (fun i hi => hb.block i (hl i (by rw [hi]; simp))) hb.size (fun i hi => hi)
theorem Clo.stored {F : FuncId} {cap : Value} {I : World → Roles → List Int → Prop} {f : Int → Int} (C : Clo F cap I f) {w : World} {ρ : Roles} {s : List Int} (h : I w ρ s) {b : Nat} (hr : ρ b ≠ some (6, 0, 0)) (o : Nat) (x : Value) : I (w.setCell ⟨b, o, none⟩ x) ρ s :=
  C.kept w ρ s _ ρ h (fun i hi => set_other w b o i x (fun e => hr (by rw [← e]; exact hi))) (by simp [World.setCell]) (fun i hi => hi)

def mvF (f : Int → Int) (v : Val) : Val := if v.k = 1 then ⟨1, f v.n⟩ else v
def objsOf (vs : List Val) : List Int := (vs.filter (fun v => decide (v.k = 1))).map Val.n
/-- The first i values have been visited. -/
def mvd (f : Int → Int) (vs : List Val) (i : Nat) : List Val := (vs.take i).map (mvF f) ++ vs.drop i
theorem mvd_zero (f : Int → Int) (vs : List Val) : mvd f vs 0 = vs := by simp [mvd]
theorem mvd_all (f : Int → Int) {vs : List Val} {n : Nat} (h : vs.length = n) : mvd f vs n = vs.map (mvF f) := by
  subst h
  simp [mvd]
theorem mvd_length (f : Int → Int) (vs : List Val) (i : Nat) : (mvd f vs i).length = vs.length := by
  unfold mvd
  simp
  omega
theorem val_getD {vs : List Val} {i : Nat} (h : i < vs.length) : vs.getD i .zero = vs[i] := by simp [List.getD_eq_getElem?_getD, List.getElem?_eq_getElem h]
theorem mvd_at {f : Int → Int} {vs : List Val} {i : Nat} (h : i < vs.length) : (mvd f vs i).getD i .zero = vs.getD i .zero := by
  unfold mvd
  rw [List.getD_eq_getElem?_getD, List.getElem?_append_right (by simp; omega)]
  simp [List.getD_eq_getElem?_getD]
  congr 1
  congr 1
  omega
theorem mvd_succ {f : Int → Int} {vs : List Val} {i : Nat} (h : i < vs.length) : mvd f vs (i + 1) = (mvd f vs i).set i (mvF f (vs.getD i .zero)) := by
  unfold mvd
  rw [List.take_succ_eq_append_getElem h, List.map_append, val_getD h, List.drop_eq_getElem_cons h]
  rw [List.set_append_right _ _ (by simp; omega)]
  simp [Nat.min_eq_left (Nat.le_of_lt h)]
  rw [List.drop_eq_getElem_cons h, List.set_cons_zero]
theorem vcells_set : ∀ (vs : List Val) (i : Nat) (v : Val), i < vs.length → v.k = (vs.getD i .zero).k → vcells (vs.set i v) = (vcells vs).set (i * 2 + 1) (.int .i64 v.n)
  | [], i, v, h, _ => absurd h (Nat.not_lt_zero _)
  | p :: ps, 0, v, _, e => by
    have e' : v.k = p.k := e
    show [Value.int .i64 v.k, Value.int .i64 v.n] ++ vcells ps = ([Value.int .i64 p.k, Value.int .i64 p.n] ++ vcells ps).set 1 (.int .i64 v.n)
    rw [e']
    rfl
  | p :: ps, i + 1, v, h, e => by
    have := vcells_set ps i v (by simpa using h) (by simpa using e)
    show [Value.int .i64 p.k, Value.int .i64 p.n] ++ vcells (ps.set i v) = ([Value.int .i64 p.k, Value.int .i64 p.n] ++ vcells ps).set ((i + 1) * 2 + 1) (.int .i64 v.n)
    rw [this, show (i + 1) * 2 + 1 = (i * 2 + 1) + 1 + 1 by omega]
    rfl
theorem objsOf_take {vs : List Val} {i : Nat} (h : i < vs.length) : objsOf (vs.take (i + 1)) = objsOf (vs.take i) ++ (if (vs.getD i .zero).k = 1 then [(vs.getD i .zero).n] else []) := by
  unfold objsOf
  rw [List.take_succ_eq_append_getElem h, val_getD h, List.filter_append, List.map_append]
  congr 1
  by_cases hk : vs[i].k = 1
  · simp [List.filter_cons, hk]
  · simp [List.filter_cons, hk]
theorem objsOf_length (vs : List Val) : (objsOf vs).length ≤ vs.length := by
  unfold objsOf
  rw [List.length_map]
  exact List.length_filter_le _ _
theorem mem_objsOf {vs : List Val} {q : Int} : q ∈ objsOf vs ↔ (⟨1, q⟩ : Val) ∈ vs := by
  unfold objsOf
  rw [List.mem_map]
  constructor
  · rintro ⟨v, hv, rfl⟩
    obtain ⟨h1, h2⟩ := List.mem_filter.1 hv
    have : v.k = 1 := by simpa using h2
    obtain ⟨a, b⟩ := v
    subst this
    exact h1
  · intro h
    exact ⟨⟨1, q⟩, List.mem_filter.2 ⟨h, by simp⟩, rfl⟩
end Go.Proofs.Ytpdcaoagpjcgbab

/-
  The walk of visitValues of package stm, with any closure. It proves no statement by itself.
-/
namespace Go.Proofs.Ytpdcaoagpjcgbab
open Go.RowKit Stm

/-- What visitValues leaves. -/
def VPost (I : World → Roles → List Int → Prop) (f : Int → Int) (w : World) (ρ : Roles) (s : List Int) (b o : Nat) (vs : List Val) (e : Ending) (w' : World) : Prop :=
  e = .returned (.tuple #[]) ∧ ∃ ρ', I w' ρ' (s ++ objsOf vs) ∧ MovedC ρ (puts w b o (vcells (vs.map (mvF f)))) ρ' w'

/-- A row of values at block b from o on. -/
structure RowV (w : World) (b o : Nat) (vs : List Val) : Prop where
  lt : b < w.heap.size
  cells : ∀ i, i < vs.length → w.cell? ⟨b, o + i * 2, none⟩ = some (.int .i64 (vs.getD i .zero).k) ∧ w.cell? ⟨b, o + i * 2 + 1, none⟩ = some (.int .i64 (vs.getD i .zero).n)
  warm : ∀ i, w.frozen? ⟨b, i, none⟩ = false

theorem RowV.kept {w w' : World} {b o : Nat} {vs : List Val} (h : RowV w b o vs) (e : w'.heap[b]? = w.heap[b]?) (hs : w.heap.size ≤ w'.heap.size) : RowV w' b o vs :=
  ⟨Nat.lt_of_lt_of_le h.lt hs, fun i hi => ⟨(World.cell?_of_block (a := ⟨b, _, none⟩) e).trans (h.cells i hi).1, (World.cell?_of_block (a := ⟨b, _, none⟩) e).trans (h.cells i hi).2⟩, fun i => (World.frozen?_of_block (a := ⟨b, i, none⟩) e).trans (h.warm i)⟩

theorem RowV.same {w : World} {b o : Nat} {vs : List Val} (h : RowV w b o vs) : puts w b o (vcells vs) = w := by
  refine puts_same _ _ _ _ (fun j v hj => ?_)
  have hlt : j < (vcells vs).length := by
    rcases Nat.lt_or_ge j (vcells vs).length with h' | h'
    · exact h'
    · rw [List.getElem?_eq_none h'] at hj; cases hj
  rw [vcells_length] at hlt
  have hi : j / 2 < vs.length := by omega
  have hc := vcells_at vs (j / 2) hi
  rcases Nat.mod_two_eq_zero_or_one j with e | e
  · rw [show j / 2 * 2 = j by omega] at hc
    rw [hc.1] at hj
    have := (h.cells (j / 2) hi).1
    rw [show o + j / 2 * 2 = o + j by omega] at this
    rw [this]; exact hj
  · rw [show j / 2 * 2 + 1 = j by omega] at hc
    rw [hc.2] at hj
    have := (h.cells (j / 2) hi).2
    rw [show o + j / 2 * 2 + 1 = o + j by omega] at this
    rw [this]; exact hj

theorem RowV.puts {w : World} {b o : Nat} {vs us : List Val} (h : RowV w b o vs) (hl : us.length = vs.length) : RowV (puts w b o (vcells us)) b o us := by
  have hthere : ∀ i, i < (vcells us).length → ∃ u, w.cell? ⟨b, o + i, none⟩ = some u := fun i hi => by
    rw [vcells_length] at hi
    have hc := h.cells (i / 2) (by omega)
    rcases Nat.mod_two_eq_zero_or_one i with e | e
    · rw [show o + i / 2 * 2 = o + i by omega] at hc; exact ⟨_, hc.1⟩
    · rw [show o + i / 2 * 2 + 1 = o + i by omega] at hc; exact ⟨_, hc.2⟩
  refine ⟨by rw [puts_size]; exact h.lt, fun i hi => ?_, fun i => by rw [puts_frozen]; exact h.warm i⟩
  have hc := vcells_at us i hi
  exact ⟨puts_at _ _ _ _ _ _ hc.1 hthere, by rw [show o + i * 2 + 1 = o + (i * 2 + 1) by omega]; exact puts_at _ _ _ _ _ _ hc.2 hthere⟩

set_option maxHeartbeats 800000 in
theorem visitValues_none {F : FuncId} {cap : Value} {I : World → Roles → List Int → Prop} {f : Int → Int} (a : Option Addr) (cp b o : Nat) (w : World) (ρ : Roles) (s : List Int) (hI : I w ρ s) (hl : ∀ i, ρ i ≠ none → i < w.heap.size) :
    Calls Try.prog 128 #[.slice a 0 cp, .func (.func F) #[] #[cap]] w (VPost I f w ρ s b o []) := by
  have HP := Lib.hide (show VPost I f w ρ s b o [] (.returned (.tuple #[])) w from ⟨rfl, ρ, by simpa [objsOf] using hI, MovedC.refl hl⟩)
  clear hI hl
  go_enter Try.func128, Try.ntmps128
  go_wp2
  go_loop [8] (fun u => u = .int .i64 0) (fun _ => 0)
  case atStart => rfl
  case round =>
    subst hrel
    go_wp2
    go_end0
    exact HP.out

set_option maxHeartbeats 1600000 in
set_option maxRecDepth 100000 in
theorem visitValues_some {F : FuncId} {cap : Value} {I : World → Roles → List Int → Prop} {f : Int → Int} (C : Clo F cap I f) (b o n cp : Nat) (vs : List Val) (w : World) (ρ : Roles) (s : List Int) (hI : I w ρ s) (hl : ∀ i, ρ i ≠ none → i < w.heap.size)
    (hn : vs.length = n) (hn4 : n ≤ 400) (hs : s.length + n ≤ 100000) (hr : RowV w b o vs) (hb : ρ b ≠ some (6, 0, 0)) (hf : ∀ i, i < n → Fits (vs.getD i .zero).n) (ho : o ≤ 1000) :
    Calls Try.prog 128 #[.slice (some ⟨b, o, none⟩) n cp, .func (.func F) #[] #[cap]] w (VPost I f w ρ s b o vs) := by
  have HI := Lib.hide hI
  have HL := Lib.hide hl
  have HN := Lib.hide hn
  have HR := Lib.hide hr
  have HB := Lib.hide hb
  have HF := Lib.hide hf
  have HC := Lib.hide C
  clear hI hl hn hr hb hf C
  go_enter Try.func128, Try.ntmps128
  go_wp2
  go_loopw [8] (fun u wr => ∃ (i : Nat) (ρr : Roles), i ≤ n ∧ u = .int .i64 i ∧ I wr ρr (s ++ objsOf (vs.take i)) ∧ MovedC ρ (puts w b o (vcells (mvd f vs i))) ρr wr) (fun u _ => n - (intOf u).toNat)
  case atStart => exact ⟨0, ρ, Nat.zero_le _, rfl, by simpa [objsOf] using HI.out, by rw [mvd_zero, HR.out.same]; exact MovedC.refl HL.out⟩
  case round =>
    obtain ⟨i, ρr, hin, rfl, hI, hM⟩ := hrel
    have hlr : ∀ j, ρr j ≠ none → j < wr.heap.size := hM.low (fun j hj => by rw [puts_size]; exact HL.out j hj)
    have hbl : b < (puts w b o (vcells (mvd f vs i))).heap.size := by rw [puts_size]; exact HR.out.lt
    have hbr : ρr b ≠ some (6, 0, 0) := by rw [hM.roles b hbl]; exact HB.out
    have hrow : RowV wr b o (mvd f vs i) := ((HR.out.puts (mvd_length f vs i)).kept (hM.block b hbl HB.out) hM.size)
    have HI2 := Lib.hide hI
    have HM := Lib.hide hM
    have HLR := Lib.hide hlr
    have HBR := Lib.hide hbr
    by_cases hlt : i < n
    · have hil : i < vs.length := by rw [HN.out]; exact hlt
      obtain ⟨e0, e1⟩ := hrow.cells i (by rw [mvd_length]; exact hil)
      rw [mvd_at hil] at e0 e1
      have ew := hrow.warm (o + i * 2 + 1)
      have el := hrow.lt
      have hfi := HF.out i hlt
      have HT := Lib.hide (objsOf_take hil)
      have HS := Lib.hide (mvd_succ (f := f) hil)
      have hmv : vcells ((mvd f vs i).set i (mvF f (vs.getD i .zero))) = (vcells (mvd f vs i)).set (i * 2 + 1) (.int .i64 (mvF f (vs.getD i .zero)).n) := vcells_set _ _ _ (by rw [mvd_length]; exact hil) (by
        rw [mvd_at hil]
        unfold mvF
        split
        · rename_i h1; exact h1.symm
        · rfl)
      have HVS := Lib.hide hmv
      have HSI := Lib.hide (show (s ++ objsOf (vs.take i)).length ≤ 100000 by
        have := objsOf_length (vs.take i)
        rw [List.length_append]
        simp at this
        omega)
      obtain ⟨x, hx⟩ : ∃ x, vs.getD i .zero = x := ⟨_, rfl⟩
      rw [hx] at e0 e1 hfi HT HS HVS
      clear hI hM hlr hbr hrow hmv hx
      have hIX := HC.out.below HI2.out (w' := wr.alloc (.cells #[.int .i64 x.k, .int .i64 x.n] 34)) (by repeat (first | exact Below.refl _ _ | assumption | refine Below.drew ?_ | refine below_drewN ?_ _ | refine Below.allocs ?_ | refine Below.next ?_ (by assumption) | refine Below.setCell ?_ (by dsimp only; omega) _)) HLR.out
      have hMX := HM.out.next (w2 := wr.alloc (.cells #[.int .i64 x.k, .int .i64 x.n] 34)) (by repeat (first | exact Below.refl _ _ | assumption | refine Below.drew ?_ | refine below_drewN ?_ _ | refine Below.allocs ?_ | refine Below.next ?_ (by assumption) | refine Below.setCell ?_ (by dsimp only; omega) _))
      have hBX := Box2.new wr (.int .i64 x.k) (.int .i64 x.n) 34
      have hXl : ∀ j, ρr j ≠ none → j < (wr.alloc (.cells #[.int .i64 x.k, .int .i64 x.n] 34)).heap.size := fun j hj => by have := HLR.out j hj; simp; omega
      have HIX := Lib.hide hIX
      have HMX := Lib.hide hMX
      have HXL := Lib.hide hXl
      have NBX := Lib.hide (show ρr wr.heap.size ≠ some (6, 0, 0) from fun e => by have := HLR.out wr.heap.size (by rw [e]; simp); omega)
      obtain ⟨d0, d1, d2, d3, d4⟩ := hBX
      have HBX := Lib.hide (show Box2 (wr.alloc (.cells #[.int .i64 x.k, .int .i64 x.n] 34)) wr.heap.size (.int .i64 x.k) (.int .i64 x.n) from ⟨d0, d1, d2, d3, d4⟩)
      have i1 : (0 : Int) ≤ (i : Int) := by omega
      have i2 : (i : Int) < (n : Int) := by omega
      have hen := HC.out.enter
      clear hIX hMX hXl
      obtain ⟨xk, xn⟩ := x
      dsimp only at e0 e1 hfi d0 d1
      by_cases hk : xk = 1
      · subst hk
        have efX : (wr.alloc (.cells #[.int .i64 1, .int .i64 xn] 34)).frozen? ⟨b, o + i * 2 + 1, none⟩ = false := ((show Below wr.heap.size wr (wr.alloc (.cells #[.int .i64 1, .int .i64 xn] 34)) from (by repeat (first | exact Below.refl _ _ | assumption | refine Below.drew ?_ | refine below_drewN ?_ _ | refine Below.allocs ?_ | refine Below.next ?_ (by assumption) | refine Below.setCell ?_ (by dsimp only; omega) _))).frozen (p := ⟨b, o + i * 2 + 1, none⟩) el).trans ew
        go_wp2_with (first | ((with_reducible refine (HC.out.call _ ρr _ xn HIX.out HXL.out HSI.out hfi).mono ?_); rintro e w2 ⟨rfl, ρ2, hI2, hM2⟩; have HI3 := Lib.hide hI2; have HM3 := Lib.hide hM2; have c1 := (World.cell?_of_block (a := ⟨b, o + i * 2 + 1, none⟩) (hM2.block b (by simp; omega) HBR.out)).trans (alloc_cell e1); have c2 := (World.frozen?_of_block (a := ⟨b, o + i * 2 + 1, none⟩) (hM2.block b (by simp; omega) HBR.out)).trans efX; have c3 := hM2.size; clear hI2 hM2))
        go_roundw
        case rel =>
          refine ⟨i + 1, ρ2, by omega, by go_num, ?_, ?_⟩
          · rw [HT.out, if_pos trivial, ← List.append_assoc]
            exact HC.out.stored HI3.out (by rw [HM3.out.roles b (by simp; omega)]; exact HBR.out) _ _
          · rw [HS.out, HVS.out, ← puts_set _ _ _ _ _ _ (by rw [vcells_length, mvd_length, HN.out]; omega)]
            have := (HMX.out.trans HM3.out).stored (b := b) (by rw [puts_size]; exact HR.out.lt) HB.out (o + (i * 2 + 1)) (.int .i64 (mvF f ⟨1, xn⟩).n)
            have e9 : (mvF f ⟨1, xn⟩).n = f xn := by unfold mvF; rw [if_pos rfl]
            rw [e9] at this ⊢
            exact this
        case measure => simp [intOf]; omega
      · have hk' : (xk == 1) = false := by simpa using hk
        go_wp2
        go_roundw
        case rel =>
          refine ⟨i + 1, ρr, by omega, by go_num, ?_, ?_⟩
          · rw [HT.out, if_neg hk, List.append_nil]
            exact HIX.out
          · have e9 : mvF f ⟨xk, xn⟩ = ⟨xk, xn⟩ := by unfold mvF; rw [if_neg hk]
            rw [HS.out, HVS.out, e9]
            have e8 := puts_set (vcells (mvd f vs i)) w b o (i * 2 + 1) (.int .i64 xn) (by rw [vcells_length, mvd_length, HN.out]; omega)
            have e7 : (puts w b o (vcells (mvd f vs i))).setCell ⟨b, o + (i * 2 + 1), none⟩ (.int .i64 xn) = puts w b o (vcells (mvd f vs i)) := setCell_same ((World.cell?_of_block (a := ⟨b, o + (i * 2 + 1), none⟩) (HM.out.block b (by rw [puts_size]; exact HR.out.lt) HB.out)).symm.trans e1)
            rw [← e8, e7]
            exact HMX.out
        case measure => simp [intOf]; omega
    · obtain rfl : i = n := by omega
      have HP : VPost I f w ρ s b o vs (.returned (.tuple #[])) wr := by
        refine ⟨rfl, ρr, ?_, ?_⟩
        · have := HI2.out
          rwa [List.take_of_length_le (by rw [HN.out]; exact Nat.le_refl _)] at this
        · have := HM.out
          rwa [mvd_all f HN.out] at this
      have HPP := Lib.hide HP
      clear hI hM hlr hbr hrow HP
      go_wp2
      go_end0
      exact HPP.out
end Go.Proofs.Ytpdcaoagpjcgbab

/-
  The walks of visitKeys of package stm, with any closure. It proves no statement by itself.
-/
namespace Go.Proofs.Ytpdcaoagpjcgbab
open Go.RowKit Stm Go.Maps

theorem RangeR.le {w : World} {b r n : Nat} {m : Int → Option Value} {left : Int → Bool} {cnt : Nat} (h : RangeR w b r n m left cnt) : cnt ≤ n := by
  obtain ⟨D, L, ⟨es, clock, since, seen, c0, h1, F, hs, hD, h2, h3, h4, _⟩, _⟩ := h
  have : (leftOf es seen).size ≤ es.size := by unfold leftOf; exact Array.size_filter_le
  omega

section
variable (w : World) {ops : Array Oper} {rest : List Oper} {o : Oper} {a : Go.Act} {Q : Exit → Go.Act → World → Prop}
/-- The beginning of a range over no map. -/
theorem wpList_range_nil (hg : o.guard = none) (m : Operand) (t k e : TypeId) (hop : o.op = Op.range t m) (ht : Try.prog.underlying t = some (.map k e)) (hm : a.eval m = .map none)
    (hK : wpList Try.prog ops Q rest (a.put o.dst (.pointer (some ⟨w.heap.size, 0, none⟩))) (w.alloc (.mapIter none 0 #[] 0))) : wpList Try.prog ops Q (o :: rest) a w := by
  refine wpList_plain hg fun K' hK' => ?_
  have hrun : (Instr.range t (.map none)).run Try.prog w = .ok (.pointer (some ⟨w.heap.size, 0, none⟩)) (w.alloc (.mapIter none 0 #[] 0)) := by
    exact run_range_nilMap w t k e ht
  unfold Oper.wp
  simp [execOp, hop, hm, hrun, Result.andThen]
  exact hK' _ _ hK
/-- Its end. -/
theorem wpList_next_nil (hg : o.guard = none) (it : Operand) (hop : o.op = Op.next it false) (r : Nat) (hit : a.eval it = .pointer (some ⟨r, 0, none⟩)) (hr : w.heap[r]? = some (.mapIter none 0 #[] 0))
    (hK : wpList Try.prog ops Q rest (a.put o.dst (.tuple #[.bool false])) w) : wpList Try.prog ops Q (o :: rest) a w := by
  refine wpList_plain hg fun K' hK' => ?_
  have hrun : (Instr.next (.pointer (some ⟨r, 0, none⟩)) false o.type).run Try.prog w = .ok (.tuple #[.bool false]) w := by
    simp only [Instr.next, getObj, Sem.run_bind, Sem.run, hr, Result.andThen]
    rfl
  unfold Oper.wp
  simp [execOp, hop, hit, hrun, Result.andThen]
  exact hK' _ _ hK
end

theorem MovedC.grown {ρ ρ' : Roles} {w w1 w2 : World} {x : Nat} (h : MovedC ρ w ρ' w1) (hg : w1.grownBy w2 (some x)) (hx : w.heap.size ≤ x) : MovedC ρ w ρ' w2 :=
  ⟨hg.os.trans h.os, hg.tape.trans h.tape, hg.output.trans h.output, Nat.le_trans h.size hg.size, fun i hi hr => (hg.block i (Nat.lt_of_lt_of_le hi h.size) (fun e => by have := Option.some.inj e; omega)).trans (h.block i hi hr), h.roles, fun i hi hn => ⟨(h.only i hi hn).1, Nat.lt_of_lt_of_le (h.only i hi hn).2 hg.size⟩⟩
theorem Clo.grown {F : FuncId} {cap : Value} {I : World → Roles → List Int → Prop} {f : Int → Int} (C : Clo F cap I f) {w w' : World} {ρ : Roles} {s : List Int} (h : I w ρ s) {x : Nat} (hg : w.grownBy w' (some x)) (hx : ρ x ≠ some (6, 0, 0)) (hl : ∀ i, ρ i ≠ none → i < w.heap.size) : I w' ρ s :=
  C.kept w ρ s w' ρ h (fun i hi => hg.block i (hl i (by rw [hi]; simp)) (fun e => by have := Option.some.inj e; subst this; exact hx hi)) hg.size (fun i hi => hi)

/-- What visitKeys leaves. -/
def KPost (I : World → Roles → List Int → Prop) (f : Int → Int) (w : World) (ρ : Roles) (s : List Int) (n : Nat) (m : Int → Option Value) (e : Ending) (w' : World) : Prop :=
  ∃ (b : Nat) (ρ' : Roles) (ks : List Int) (m' : Int → Option Value), e = .returned (.map (some b)) ∧ I w' ρ' (s ++ ks) ∧ MovedC ρ w ρ' w' ∧ w.heap.size ≤ b ∧ b < w'.heap.size ∧ ρ' b = none ∧ MapR w' b n m' ∧
    (∀ q v, m' q = some v ↔ ∃ p, m p = some v ∧ f p = q) ∧ (∀ p, p ∈ ks ↔ (m p).isSome = true) ∧ ks.length ≤ n

/-- The new map, so far. -/
structure KeysSt (f : Int → Int) (m m' : Int → Option Value) (left : Int → Bool) (ks : List Int) : Prop where
  mem : ∀ p, p ∈ ks ↔ (m p).isSome = true ∧ left p = false
  map : ∀ q v, m' q = some v ↔ ∃ p, p ∈ ks ∧ m p = some v ∧ f p = q
theorem KeysSt.start (f : Int → Int) (m : Int → Option Value) : KeysSt f m (fun _ => none) (fun p => (m p).isSome) [] :=
  ⟨fun p => ⟨fun h => (by cases h), fun ⟨h1, h2⟩ => by rw [h1] at h2; cases h2⟩, fun q v => ⟨fun h => (by cases h), fun ⟨p, h, _⟩ => by cases h⟩⟩
theorem KeysSt.step {f : Int → Int} {m m' : Int → Option Value} {left : Int → Bool} {ks : List Int} (h : KeysSt f m m' left ks) (hinj : ∀ p q, (m p).isSome = true → (m q).isSome = true → f p = f q → p = q) {x : Int} {v : Value} (hx : m x = some v) (hl : left x = true) :
    KeysSt f m (setAt m' (f x) (some v)) (fun z => left z && !decide (z = x)) (ks ++ [x]) := by
  refine ⟨fun p => ?_, fun q u => ?_⟩
  · rw [List.mem_append, h.mem]
    by_cases e : p = x
    · subst e; simp [hx]
    · simp [e]
  · by_cases e : q = f x
    · subst e
      rw [setAt_same]
      constructor
      · intro hu
        injection hu with hu
        subst hu
        exact ⟨x, by simp, hx, rfl⟩
      · rintro ⟨p, hp, hm, hfp⟩
        have : p = x := hinj p x (by simp [hm]) (by simp [hx]) hfp
        subst this
        rw [hx] at hm
        exact hm
    · rw [setAt_other _ _ e, h.map]
      constructor
      · rintro ⟨p, hp, hm, hfp⟩
        exact ⟨p, by simp [hp], hm, hfp⟩
      · rintro ⟨p, hp, hm, hfp⟩
        refine ⟨p, ?_, hm, hfp⟩
        rcases List.mem_append.1 hp with hp | hp
        · exact hp
        · simp at hp
          subst hp
          exact absurd hfp.symm e
theorem KeysSt.done {f : Int → Int} {m m' : Int → Option Value} {left : Int → Bool} {ks : List Int} (h : KeysSt f m m' left ks) (hl : ∀ p, left p = false) : (∀ q v, m' q = some v ↔ ∃ p, m p = some v ∧ f p = q) ∧ (∀ p, p ∈ ks ↔ (m p).isSome = true) := by
  have hm : ∀ p, p ∈ ks ↔ (m p).isSome = true := fun p => by rw [h.mem, hl]; simp
  refine ⟨fun q v => ?_, hm⟩
  rw [h.map]
  constructor
  · rintro ⟨p, _, h1, h2⟩; exact ⟨p, h1, h2⟩
  · rintro ⟨p, h1, h2⟩; exact ⟨p, (hm p).2 (by simp [h1]), h1, h2⟩


set_option maxHeartbeats 800000 in
theorem visitKeysI_nil {F : FuncId} {cap : Value} {I : World → Roles → List Int → Prop} {f : Int → Int} (C : Clo F cap I f) (n : Nat) (w : World) (ρ : Roles) (s : List Int) (m : Int → Option Value) (hI : I w ρ s) (hl : ∀ i, ρ i ≠ none → i < w.heap.size) (hm : ∀ p, m p = none) :
    Calls Try.prog 129 #[.map none, .func (.func F) #[] #[cap]] w (KPost I f w ρ s n m) := by
  have hmm := @run_makeMap Try.prog
  have hb : Below w.heap.size w ((w.alloc (.map #[] 0)).alloc (.mapIter none 0 #[] 0)) := (by repeat (first | exact Below.refl _ _ | assumption | refine Below.drew ?_ | refine below_drewN ?_ _ | refine Below.allocs ?_ | refine Below.next ?_ (by assumption) | refine Below.setCell ?_ (by dsimp only; omega) _))
  have hiter : ((w.alloc (.map #[] 0)).alloc (.mapIter none 0 #[] 0)).heap[w.heap.size + 1]? = some (.mapIter none 0 #[] 0) := by
    have := (MapKept.heap_alloc (w.alloc (.map #[] 0)) (.mapIter none 0 #[] 0)).1
    rwa [show (w.alloc (.map #[] 0)).heap.size = w.heap.size + 1 by simp] at this
  have hp : KPost I f w ρ s n m (.returned (.map (some w.heap.size))) ((w.alloc (.map #[] 0)).alloc (.mapIter none 0 #[] 0)) := by
    refine ⟨w.heap.size, ρ, [], fun _ => none, rfl, by simpa using C.below hI hb hl, MovedC.of_below hb hl, Nat.le_refl _, by simp; omega, Classical.byContradiction fun hn => by have := hl _ hn; omega, ?_, fun q v => by simp [hm], fun p => by simp [hm], by simp⟩
    exact ((MapR.made w).kept (Below.heap_alloc _ _ _ (by simp))).mono (Nat.zero_le _)
  have HP := Lib.hide hp
  have HIT := Lib.hide hiter
  clear hI hl hm hb hiter hp C
  go_enter Try.func129, Try.ntmps129
  go_wp2_with (first
    | (at_range; refine wpList_range_nil _ rfl _ 55 3 3 rfl Try.underlying55 rfl ?_)
    | go_in)
  go_frame
  rw [show (w.alloc (.map #[] 0)).heap.size = w.heap.size + 1 by simp]
  go_loopw [11] (fun _ wr => wr = (w.alloc (.map #[] 0)).alloc (.mapIter none 0 #[] 0)) (fun _ _ => 0)
  case atStart => first | rfl | exact ⟨_, rfl⟩
  case round =>
    subst hrel
    go_wp2_with (first
      | (at_next; refine wpList_next_nil _ rfl _ rfl (w.heap.size + 1) rfl HIT.out ?_)
      | go_in)
    go_wp2
    go_ret
    exact HP.out

set_option maxHeartbeats 1600000 in
set_option maxRecDepth 100000 in
theorem visitKeysI_some {F : FuncId} {cap : Value} {I : World → Roles → List Int → Prop} {f : Int → Int} (C : Clo F cap I f) (b n : Nat) (w : World) (ρ : Roles) (s : List Int) (m : Int → Option Value) (hI : I w ρ s) (hl : ∀ i, ρ i ≠ none → i < w.heap.size)
    (hm : MapR w b n m) (hb : ρ b ≠ some (6, 0, 0)) (hn : n ≤ 1000) (hs : s.length ≤ 90000) (hinj : ∀ p q, (m p).isSome = true → (m q).isSome = true → f p = f q → p = q) (hinv : ∀ x v, m x = some v → ∃ c, v = (Value.int .i64) c) :
    Calls Try.prog 129 #[.map (some b), .func (.func F) #[] #[cap]] w (KPost I f w ρ s n m) := by
  have hmm := @run_makeMap Try.prog
  have hbl := hm.lt
  have HC := Lib.hide C
  have HI := Lib.hide hI
  have HL := Lib.hide hl
  have HM := Lib.hide hm
  have HB := Lib.hide hb
  have HJ := Lib.hide hinj
  have HV := Lib.hide hinv
  have hX : Below w.heap.size w (w.alloc (.map #[] 0)) := (by repeat (first | exact Below.refl _ _ | assumption | refine Below.drew ?_ | refine below_drewN ?_ _ | refine Below.allocs ?_ | refine Below.next ?_ (by assumption) | refine Below.setCell ?_ (by dsimp only; omega) _))
  have HX := Lib.hide hX
  clear C hI hl hm hb hinj hinv hX
  go_enter Try.func129, Try.ntmps129
  go_wp2_with (first
    | (at_range; refine wpList_range_R _ rfl _ 55 rfl 3 Try.underlying55 b n _ rfl (HM.out.kept (Below.heap_alloc _ _ _ hbl)) ?_; intro w0 cnt0 hrg0 hg0 hs0)
    | go_in)
  go_frame
  have hsz : (w.alloc (.map #[] 0)).heap.size = w.heap.size + 1 := by simp
  rw [hsz] at hrg0 hs0 ⊢
  have hb0 : Below (w.heap.size + 1) (w.alloc (.map #[] 0)) w0 := ⟨hg0.os, hg0.tape, hg0.output, by have := hg0.size; omega, fun i hi => hg0.block i (by omega) (by simp)⟩
  have hbw0 : Below w.heap.size w w0 := HX.out.trans (hb0.mono (Nat.le_succ _))
  have HW0 := Lib.hide hbw0
  have HRG0 := Lib.hide hrg0
  have HMN := Lib.hide ((MapR.made w).kept (hb0.block w.heap.size (Nat.lt_succ_self _)))
  have HR1 := Lib.hide (show ρ w.heap.size = none from Classical.byContradiction fun hn => by have := HL.out _ hn; omega)
  have HR2 := Lib.hide (show ρ (w.heap.size + 1) = none from Classical.byContradiction fun hn => by have := HL.out _ hn; omega)
  have hen := HC.out.enter
  clear hb0 hbw0 hrg0 hg0 hs0 hsz
  go_loopw [11] (fun _ wr => ∃ (left : Int → Bool) (cnt j : Nat) (ρr : Roles) (ks : List Int) (m' : Int → Option Value), RangeR wr b (w.heap.size + 1) n m left cnt ∧ MapR wr w.heap.size j m' ∧ I wr ρr (s ++ ks) ∧ MovedC ρ w ρr wr ∧ ρr w.heap.size = none ∧ ρr (w.heap.size + 1) = none ∧ KeysSt f m m' left ks ∧ ks.length = j ∧ j + cnt ≤ n) (fun _ wr => wr.rangeLeft b (w.heap.size + 1))
  case atStart =>
    refine ⟨_, cnt0, 0, ρ, [], fun _ => none, HRG0.out, HMN.out, by simpa using HC.out.below HI.out HW0.out HL.out, MovedC.of_below HW0.out HL.out, HR1.out, HR2.out, KeysSt.start f m, rfl, ?_⟩
    have := HRG0.out.le
    omega
  case round =>
    obtain ⟨left, cnt, j, ρr, ks, m', hrg, hmp, hIr, hMv, hr1, hr2, hst, hkl, hjc⟩ := hrel
    have HRG := Lib.hide hrg
    have HMP := Lib.hide hmp
    have HIR := Lib.hide hIr
    have HMV := Lib.hide hMv
    have HQ1 := Lib.hide hr1
    have HQ2 := Lib.hide hr2
    have HST := Lib.hide hst
    have HKL := Lib.hide hkl
    have hjn := hmp.lt
    have hwz := hMv.size
    have HLR := Lib.hide (hMv.low HL.out)
    clear hrg hmp hIr hMv hr1 hr2 hst hkl HRG0 HMN
    go_wp2_with (first
      | (at_next; refine wpList_next_R _ rfl _ rfl (Value.int .i64) b (w.heap.size + 1) n _ _ _ HV.out rfl HRG.out ?_ ?_)
      | go_in)
    · intro hc0 hl0
      have hd := HST.out.done hl0
      have hp : KPost I f w ρ s n m (.returned (.map (some w.heap.size))) wr := ⟨w.heap.size, ρr, ks, m', rfl, HIR.out, HMV.out, Nat.le_refl _, hjn, HQ1.out, HMP.out.mono (by omega), hd.1, hd.2, by rw [HKL.out]; omega⟩
      have HP := Lib.hide hp
      clear hl0 hd hp
      go_wp2
      go_ret
      exact HP.out
    · intro x v w1 cnt1 hfx hlx hx hrg1 hlt1 hg1 hs1 hent
      have HLX := Lib.hide hlx
      have HXX := Lib.hide hx
      have HRG1 := Lib.hide hrg1
      have HG1 := Lib.hide hg1
      have HLL := Lib.hide HRG.out.left_eq
      have hI1 := HC.out.grown HIR.out hg1 (by rw [HQ2.out]; simp) HLR.out
      have hM1 := HMV.out.grown hg1 (Nat.le_succ _)
      have hP1 : MapR w1 w.heap.size j m' := HMP.out.kept (hg1.block _ hjn (fun e => by have := Option.some.inj e; omega))
      have hl1 : ∀ i, ρr i ≠ none → i < w1.heap.size := fun i hi => by rw [hs1]; exact HLR.out i hi
      have HI1 := Lib.hide hI1
      have HM1 := Lib.hide hM1
      have HP1 := Lib.hide hP1
      have HL1 := Lib.hide hl1
      have HSL := Lib.hide (show (s ++ ks).length ≤ 100000 by rw [List.length_append, HKL.out]; omega)
      have HBR := Lib.hide (show ρr b ≠ some (6, 0, 0) by rw [HMV.out.roles b hbl]; exact HB.out)
      have hj1 : j < maxLen := by unfold maxLen; omega
      clear hlx hx hrg1 hg1 hI1 hM1 hP1 hl1
      go_wp2_with (first | ((with_reducible refine (HC.out.call _ ρr _ x HI1.out HL1.out HSL.out hfx).mono ?_); rintro e w2 ⟨rfl, ρ2, hI2, hM2⟩; have hP2 := HP1.out.kept (hM2.block w.heap.size (by omega) (by rw [HQ1.out]; simp)); obtain ⟨w3, hput, hm3, hg3⟩ := hP2.put Try.underlying55 hj1 (HC.out.fits x hfx) (.int .i64 v); have HI2 := Lib.hide hI2; have HM2 := Lib.hide hM2; have HM3 := Lib.hide hm3; have HG3 := Lib.hide hg3; clear hI2 hM2 hP2 hm3 hg3) | go_in)
      have hl2 : ∀ i, ρ2 i ≠ none → i < w2.heap.size := HM2.out.low HL1.out
      have q1 : ρ2 w.heap.size = none := (HM2.out.roles _ (by omega)).trans HQ1.out
      have q2 : ρ2 (w.heap.size + 1) = none := (HM2.out.roles _ (by have := HRG1.out.lt; omega)).trans HQ2.out
      have hr3 : RangeR w3 b (w.heap.size + 1) n m (fun z => left z && !decide (z = x)) cnt1 := by
        have k1 : RangeR w2 b (w.heap.size + 1) n m (fun z => left z && !decide (z = x)) cnt1 := HRG1.out.kept (HM2.out.block b (by omega) HBR.out) (HM2.out.block _ HRG1.out.lt (by rw [HQ2.out]; simp))
        have hw2 := HM2.out.size
        exact k1.kept (HG3.out.block b (by omega) (fun e => by have := Option.some.inj e; omega)) (HG3.out.block _ (by have := HRG1.out.lt; omega) (fun e => by have := Option.some.inj e; omega))
      have HR3 := Lib.hide hr3
      clear hr3
      go_roundw
      case rel =>
        refine ⟨_, cnt1, j + 1, ρ2, ks ++ [x], _, HR3.out, HM3.out, ?_, (HM1.out.trans HM2.out).grown HG3.out (Nat.le_refl _), q1, q2, HST.out.step HJ.out HXX.out HLX.out, by simp [HKL.out], by omega⟩
        rw [← List.append_assoc]
        exact HC.out.grown HI2.out HG3.out (by rw [q1]; simp) hl2
      case measure =>
        rw [HR3.out.left_eq, HLL.out]
        exact hlt1

set_option maxHeartbeats 800000 in
theorem visitKeysO_nil {F : FuncId} {cap : Value} {I : World → Roles → List Int → Prop} {f : Int → Int} (C : Clo F cap I f) (n : Nat) (w : World) (ρ : Roles) (s : List Int) (m : Int → Option Value) (hI : I w ρ s) (hl : ∀ i, ρ i ≠ none → i < w.heap.size) (hm : ∀ p, m p = none) :
    Calls Try.prog 130 #[.map none, .func (.func F) #[] #[cap]] w (KPost I f w ρ s n m) := by
  have hmm := @run_makeMap Try.prog
  have hb : Below w.heap.size w ((w.alloc (.map #[] 0)).alloc (.mapIter none 0 #[] 0)) := (by repeat (first | exact Below.refl _ _ | assumption | refine Below.drew ?_ | refine below_drewN ?_ _ | refine Below.allocs ?_ | refine Below.next ?_ (by assumption) | refine Below.setCell ?_ (by dsimp only; omega) _))
  have hiter : ((w.alloc (.map #[] 0)).alloc (.mapIter none 0 #[] 0)).heap[w.heap.size + 1]? = some (.mapIter none 0 #[] 0) := by
    have := (MapKept.heap_alloc (w.alloc (.map #[] 0)) (.mapIter none 0 #[] 0)).1
    rwa [show (w.alloc (.map #[] 0)).heap.size = w.heap.size + 1 by simp] at this
  have hp : KPost I f w ρ s n m (.returned (.map (some w.heap.size))) ((w.alloc (.map #[] 0)).alloc (.mapIter none 0 #[] 0)) := by
    refine ⟨w.heap.size, ρ, [], fun _ => none, rfl, by simpa using C.below hI hb hl, MovedC.of_below hb hl, Nat.le_refl _, by simp; omega, Classical.byContradiction fun hn => by have := hl _ hn; omega, ?_, fun q v => by simp [hm], fun p => by simp [hm], by simp⟩
    exact ((MapR.made w).kept (Below.heap_alloc _ _ _ (by simp))).mono (Nat.zero_le _)
  have HP := Lib.hide hp
  have HIT := Lib.hide hiter
  clear hI hl hm hb hiter hp C
  go_enter Try.func130, Try.ntmps130
  go_wp2_with (first
    | (at_range; refine wpList_range_nil _ rfl _ 107 3 156 rfl Try.underlying107 rfl ?_)
    | go_in)
  go_frame
  rw [show (w.alloc (.map #[] 0)).heap.size = w.heap.size + 1 by simp]
  go_loopw [11] (fun _ wr => wr = (w.alloc (.map #[] 0)).alloc (.mapIter none 0 #[] 0)) (fun _ _ => 0)
  case atStart => first | rfl | exact ⟨_, rfl⟩
  case round =>
    subst hrel
    go_wp2_with (first
      | (at_next; refine wpList_next_nil _ rfl _ rfl (w.heap.size + 1) rfl HIT.out ?_)
      | go_in)
    go_wp2
    go_ret
    exact HP.out

set_option maxHeartbeats 1600000 in
set_option maxRecDepth 100000 in
theorem visitKeysO_some {F : FuncId} {cap : Value} {I : World → Roles → List Int → Prop} {f : Int → Int} (C : Clo F cap I f) (b n : Nat) (w : World) (ρ : Roles) (s : List Int) (m : Int → Option Value) (hI : I w ρ s) (hl : ∀ i, ρ i ≠ none → i < w.heap.size)
    (hm : MapR w b n m) (hb : ρ b ≠ some (6, 0, 0)) (hn : n ≤ 1000) (hs : s.length ≤ 90000) (hinj : ∀ p q, (m p).isSome = true → (m q).isSome = true → f p = f q → p = q) (hinv : ∀ x v, m x = some v → ∃ c, v = mkOrig c) :
    Calls Try.prog 130 #[.map (some b), .func (.func F) #[] #[cap]] w (KPost I f w ρ s n m) := by
  have hmm := @run_makeMap Try.prog
  have hbl := hm.lt
  have HC := Lib.hide C
  have HI := Lib.hide hI
  have HL := Lib.hide hl
  have HM := Lib.hide hm
  have HB := Lib.hide hb
  have HJ := Lib.hide hinj
  have HV := Lib.hide hinv
  have hX : Below w.heap.size w (w.alloc (.map #[] 0)) := (by repeat (first | exact Below.refl _ _ | assumption | refine Below.drew ?_ | refine below_drewN ?_ _ | refine Below.allocs ?_ | refine Below.next ?_ (by assumption) | refine Below.setCell ?_ (by dsimp only; omega) _))
  have HX := Lib.hide hX
  clear C hI hl hm hb hinj hinv hX
  go_enter Try.func130, Try.ntmps130
  go_wp2_with (first
    | (at_range; refine wpList_range_R _ rfl _ 107 rfl 156 Try.underlying107 b n _ rfl (HM.out.kept (Below.heap_alloc _ _ _ hbl)) ?_; intro w0 cnt0 hrg0 hg0 hs0)
    | go_in)
  go_frame
  have hsz : (w.alloc (.map #[] 0)).heap.size = w.heap.size + 1 := by simp
  rw [hsz] at hrg0 hs0 ⊢
  have hb0 : Below (w.heap.size + 1) (w.alloc (.map #[] 0)) w0 := ⟨hg0.os, hg0.tape, hg0.output, by have := hg0.size; omega, fun i hi => hg0.block i (by omega) (by simp)⟩
  have hbw0 : Below w.heap.size w w0 := HX.out.trans (hb0.mono (Nat.le_succ _))
  have HW0 := Lib.hide hbw0
  have HRG0 := Lib.hide hrg0
  have HMN := Lib.hide ((MapR.made w).kept (hb0.block w.heap.size (Nat.lt_succ_self _)))
  have HR1 := Lib.hide (show ρ w.heap.size = none from Classical.byContradiction fun hn => by have := HL.out _ hn; omega)
  have HR2 := Lib.hide (show ρ (w.heap.size + 1) = none from Classical.byContradiction fun hn => by have := HL.out _ hn; omega)
  have hen := HC.out.enter
  clear hb0 hbw0 hrg0 hg0 hs0 hsz
  go_loopw [11] (fun _ wr => ∃ (left : Int → Bool) (cnt j : Nat) (ρr : Roles) (ks : List Int) (m' : Int → Option Value), RangeR wr b (w.heap.size + 1) n m left cnt ∧ MapR wr w.heap.size j m' ∧ I wr ρr (s ++ ks) ∧ MovedC ρ w ρr wr ∧ ρr w.heap.size = none ∧ ρr (w.heap.size + 1) = none ∧ KeysSt f m m' left ks ∧ ks.length = j ∧ j + cnt ≤ n) (fun _ wr => wr.rangeLeft b (w.heap.size + 1))
  case atStart =>
    refine ⟨_, cnt0, 0, ρ, [], fun _ => none, HRG0.out, HMN.out, by simpa using HC.out.below HI.out HW0.out HL.out, MovedC.of_below HW0.out HL.out, HR1.out, HR2.out, KeysSt.start f m, rfl, ?_⟩
    have := HRG0.out.le
    omega
  case round =>
    obtain ⟨left, cnt, j, ρr, ks, m', hrg, hmp, hIr, hMv, hr1, hr2, hst, hkl, hjc⟩ := hrel
    have HRG := Lib.hide hrg
    have HMP := Lib.hide hmp
    have HIR := Lib.hide hIr
    have HMV := Lib.hide hMv
    have HQ1 := Lib.hide hr1
    have HQ2 := Lib.hide hr2
    have HST := Lib.hide hst
    have HKL := Lib.hide hkl
    have hjn := hmp.lt
    have hwz := hMv.size
    have HLR := Lib.hide (hMv.low HL.out)
    clear hrg hmp hIr hMv hr1 hr2 hst hkl HRG0 HMN
    go_wp2_with (first
      | (at_next; refine wpList_next_R _ rfl _ rfl mkOrig b (w.heap.size + 1) n _ _ _ HV.out rfl HRG.out ?_ ?_)
      | go_in)
    · intro hc0 hl0
      have hd := HST.out.done hl0
      have hp : KPost I f w ρ s n m (.returned (.map (some w.heap.size))) wr := ⟨w.heap.size, ρr, ks, m', rfl, HIR.out, HMV.out, Nat.le_refl _, hjn, HQ1.out, HMP.out.mono (by omega), hd.1, hd.2, by rw [HKL.out]; omega⟩
      have HP := Lib.hide hp
      clear hl0 hd hp
      go_wp2
      go_ret
      exact HP.out
    · intro x vr va vn vc w1 cnt1 hfx hlx hx hrg1 hlt1 hg1 hs1 hent
      have HLX := Lib.hide hlx
      have HXX := Lib.hide hx
      have HRG1 := Lib.hide hrg1
      have HG1 := Lib.hide hg1
      have HLL := Lib.hide HRG.out.left_eq
      have hI1 := HC.out.grown HIR.out hg1 (by rw [HQ2.out]; simp) HLR.out
      have hM1 := HMV.out.grown hg1 (Nat.le_succ _)
      have hP1 : MapR w1 w.heap.size j m' := HMP.out.kept (hg1.block _ hjn (fun e => by have := Option.some.inj e; omega))
      have hl1 : ∀ i, ρr i ≠ none → i < w1.heap.size := fun i hi => by rw [hs1]; exact HLR.out i hi
      have HI1 := Lib.hide hI1
      have HM1 := Lib.hide hM1
      have HP1 := Lib.hide hP1
      have HL1 := Lib.hide hl1
      have HSL := Lib.hide (show (s ++ ks).length ≤ 100000 by rw [List.length_append, HKL.out]; omega)
      have HBR := Lib.hide (show ρr b ≠ some (6, 0, 0) by rw [HMV.out.roles b hbl]; exact HB.out)
      have hj1 : j < maxLen := by unfold maxLen; omega
      clear hlx hx hrg1 hg1 hI1 hM1 hP1 hl1
      unfold mkOrig at hent
      dsimp only at hent
      have hX1 : Below w1.heap.size w1 (w1.alloc (.cells #[.int .i64 vr, .slice va vn vc] 156)).drew := (by repeat (first | exact Below.refl _ _ | assumption | refine Below.drew ?_ | refine below_drewN ?_ _ | refine Below.allocs ?_ | refine Below.next ?_ (by assumption) | refine Below.setCell ?_ (by dsimp only; omega) _))
      have xs0 : (w1.alloc (.cells #[.int .i64 vr, .slice va vn vc] 156)).drew.heap.size = w1.heap.size + 1 := by simp [World.drew]
      obtain ⟨c0, c1, c2, c3, c4⟩ := (Box2.new w1 (.int .i64 vr) (.slice va vn vc) 156).next (w' := (w1.alloc (.cells #[.int .i64 vr, .slice va vn vc] 156)).drew) (by repeat (first | exact Below.refl _ _ | assumption | refine Below.drew ?_ | refine below_drewN ?_ _ | refine Below.allocs ?_ | refine Below.next ?_ (by assumption) | refine Below.setCell ?_ (by dsimp only; omega) _))
      rw [hs1] at c0 c1 c2 c3 c4
      have HI1 := Lib.hide (HC.out.below HI1.out hX1 HL1.out)
      have HM1 := Lib.hide (HM1.out.next hX1)
      have hw1 : w.heap.size < w1.heap.size := by have := HM1.out.size; have := HRG1.out.lt; omega
      have HP1 := Lib.hide (HP1.out.kept (hX1.block w.heap.size hw1))
      have HRG1 := Lib.hide (HRG1.out.kept (hX1.block b (by omega)) (hX1.block _ HRG1.out.lt))
      have HL1 := Lib.hide (show ∀ i, ρr i ≠ none → i < (w1.alloc (.cells #[.int .i64 vr, .slice va vn vc] 156)).drew.heap.size from fun i hi => by have := HL1.out i hi; omega)
      have HNX := Lib.hide (show ρr wr.heap.size ≠ some (6, 0, 0) from fun e => by have := HMV.out.low HL.out wr.heap.size (by rw [e]; simp); omega)
      clear hX1
      go_wp2
      go_region_held3 (fun w' => w'.cell? ⟨wr.heap.size, 0, none⟩ = some (.int .i64 vr) ∧ w'.cell? ⟨wr.heap.size, 1, none⟩ = some (.slice va vn vc))
        (first | exact ⟨c0, c1⟩ | exact ⟨k0, k1⟩ | exact ⟨l0, l1⟩ | go_keep)
        (first | ((with_reducible refine (HC.out.call _ ρr _ x HI1.out HL1.out HSL.out hfx).mono ?_); rintro e w2 ⟨rfl, ρ2, hI2, hM2⟩; have hP2 := HP1.out.kept (hM2.block w.heap.size (by omega) (by rw [HQ1.out]; simp)); obtain ⟨w3, hput, hm3, hg3⟩ := hP2.put Try.underlying107 hj1 (HC.out.fits x hfx) (.agg #[.int .i64 vr, .slice va vn vc]); have k0 := (World.cell?_of_block (a := ⟨wr.heap.size, 0, none⟩) (hM2.block wr.heap.size c4 HNX.out)).trans c0; have k1 := (World.cell?_of_block (a := ⟨wr.heap.size, 1, none⟩) (hM2.block wr.heap.size c4 HNX.out)).trans c1; have hz2 := hM2.size; have l0 := (World.cell?_of_block (a := ⟨wr.heap.size, 0, none⟩) (hg3.block wr.heap.size (by omega) (fun e => by have := Option.some.inj e; omega))).trans k0; have l1 := (World.cell?_of_block (a := ⟨wr.heap.size, 1, none⟩) (hg3.block wr.heap.size (by omega) (fun e => by have := Option.some.inj e; omega))).trans k1; have HI2 := Lib.hide hI2; have HM2 := Lib.hide hM2; have HM3 := Lib.hide hm3; have HG3 := Lib.hide hg3; clear hI2 hM2 hP2 hm3 hg3))
      go_wp2
      have hl2 : ∀ i, ρ2 i ≠ none → i < w2.heap.size := HM2.out.low HL1.out
      have q1 : ρ2 w.heap.size = none := (HM2.out.roles _ (by omega)).trans HQ1.out
      have q2 : ρ2 (w.heap.size + 1) = none := (HM2.out.roles _ (by have := HRG1.out.lt; omega)).trans HQ2.out
      have hr3 : RangeR w3 b (w.heap.size + 1) n m (fun z => left z && !decide (z = x)) cnt1 := by
        have k1 : RangeR w2 b (w.heap.size + 1) n m (fun z => left z && !decide (z = x)) cnt1 := HRG1.out.kept (HM2.out.block b (by omega) HBR.out) (HM2.out.block _ HRG1.out.lt (by rw [HQ2.out]; simp))
        have hw2 := HM2.out.size
        exact k1.kept (HG3.out.block b (by omega) (fun e => by have := Option.some.inj e; omega)) (HG3.out.block _ (by have := HRG1.out.lt; omega) (fun e => by have := Option.some.inj e; omega))
      have HR3 := Lib.hide hr3
      clear hr3
      go_roundw
      case rel =>
        refine ⟨_, cnt1, j + 1, ρ2, ks ++ [x], _, HR3.out, HM3.out, ?_, (HM1.out.trans HM2.out).grown HG3.out (Nat.le_refl _), q1, q2, HST.out.step HJ.out HXX.out HLX.out, by simp [HKL.out], by omega⟩
        rw [← List.append_assoc]
        exact HC.out.grown HI2.out HG3.out (by rw [q1]; simp) hl2
      case measure =>
        rw [HR3.out.left_eq, HLL.out]
        exact hlt1
end Go.Proofs.Ytpdcaoagpjcgbab

