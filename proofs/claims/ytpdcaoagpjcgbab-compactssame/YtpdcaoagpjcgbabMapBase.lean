/-
  Maps that the program makes, from integers to bools and to integers: what they hold at each number, and the laws of their look-ups and stores. It proves no statement by itself.
-/
import Derived.Test.YtpdcaoagpjcgbabSearchWalks
import Derived.Maps.OwnSet
import Derived.Deep.LoopGhost
set_option linter.unusedVariables false
set_option linter.unusedSimpArgs false
namespace Go.Proofs.Ytpdcaoagpjcgbab
open Go.RowKit Go.Maps

theorem Fits.wf {x : Int} (h : Fits x) : (Lit.int .i64 x).wf = true := by
  obtain ⟨h1, h2⟩ := h
  simp [Lit.wf, IntKind.min, IntKind.max, IntKind.signed, IntKind.bits]
  omega
theorem Try.keyInt : Keyed Try.prog 3 := int_keyed Try.underlying3
set_option maxRecDepth 100000 in
theorem Try.zeroInt (w : World) : (zeroValue 3).run Try.prog w = .ok (.int .i64 0) w := by rfl
set_option maxRecDepth 100000 in
theorem Try.zeroBool (w : World) : (zeroValue 4).run Try.prog w = .ok (.bool false) w := by rfl
theorem Try.keyOfInt {x : Int} (h : Fits x) : keyOf Try.prog 3 (.int .i64 x) = some (.int .i64 x) := keyOf_int_mk Try.underlying3 h.wf

/-- One place of a function changed. -/
def setAt {α : Type} (m : Int → α) (p : Int) (v : α) : Int → α := fun x => if x = p then v else m x
theorem setAt_same {α : Type} (m : Int → α) (p : Int) (v : α) : setAt m p v p = v := by simp [setAt]
theorem setAt_other {α : Type} (m : Int → α) {p x : Int} (v : α) (h : x ≠ p) : setAt m p v x = m x := by simp [setAt, h]

/-- Block b is a map from integers to bools, of at most n entries, that holds m. -/
def MapB (w : World) (b n : Nat) (m : Int → Bool) : Prop :=
  ∃ D : DataW Unit, w.ownsMap Try.prog 3 (plainElem Try.prog 4) b n D ∧ ∀ x, D.atKey (.int .i64 x) (.lit (.bool false)) = .lit (.bool (m x))

theorem MapB.lt {w : World} {b n : Nat} {m : Int → Bool} (h : MapB w b n m) : b < w.heap.size := by
  obtain ⟨D, h1, _⟩ := h
  exact h1.lt
theorem MapB.made (w : World) : MapB (w.alloc (.map #[] 0)) w.heap.size 0 (fun _ => false) :=
  ⟨.map [], World.ownsMap_made w _ _ _, fun x => by simp [DataW.atKey]⟩
theorem MapB.kept {w w' : World} {b n : Nat} {m : Int → Bool} (h : MapB w b n m) (hb : w'.heap[b]? = w.heap[b]?) : MapB w' b n m := by
  obtain ⟨D, ⟨es, clock, h1, h2⟩, h3⟩ := h
  exact ⟨D, ⟨es, clock, hb.trans h1, h2⟩, h3⟩
theorem MapB.mono {w : World} {b n n' : Nat} {m : Int → Bool} (h : MapB w b n m) (hn : n ≤ n') : MapB w b n' m := by
  obtain ⟨D, h1, h2⟩ := h
  exact ⟨D, h1.mono hn, h2⟩

theorem plainElem_bool_inv {e : TypeId} (he : Try.prog.underlying e = some .bool) {v : Value} {z : DataW Unit × List MemPlace} (h : plainElem Try.prog e v = some z) : ∃ x, v = .bool x ∧ z = (.lit (.bool x), []) := by
  unfold plainElem at h
  rw [he] at h
  cases v <;> simp at h
  exact ⟨_, rfl, h.symm⟩

/-- A look-up, as an equation for the walk. -/
theorem MapB.look {w : World} {b n : Nat} {m : Int → Bool} (h : MapB w b n m) {x : Int} (hx : Fits x) (r : Bool) (hr : m x = r) : (Instr.lookup 95 (.map (some b)) (.int .i64 x) false).run Try.prog w = .ok (.bool r) w := by
  obtain ⟨D, h1, h2⟩ := h
  obtain ⟨v, ps, hrun, hv⟩ := h1.lookup Try.keyInt Try.underlying95 (Try.zeroBool w) (plainElem_bool Try.underlying4 false) (Try.keyOfInt hx)
  obtain ⟨y, rfl, hy⟩ := plainElem_bool_inv Try.underlying4 hv
  rw [h2 x] at hy
  simp at hy
  rw [hrun, ← hy.1, hr]

/-- A store: what it leaves. -/
theorem MapB.put {w : World} {b n : Nat} {m : Int → Bool} (h : MapB w b n m) (hn : n < maxLen) {x : Int} (hx : Fits x) (v : Bool) :
    ∃ w', (Instr.mapUpdate 95 (.map (some b)) (.int .i64 x) (.bool v)).run Try.prog w = .ok () w' ∧ MapB w' b (n + 1) (setAt m x v) ∧ w.grownBy w' (some b) := by
  obtain ⟨D, h1, h2⟩ := h
  obtain ⟨w', hrun, ho, hg⟩ := h1.update Try.keyInt Try.underlying95 hn (Try.keyOfInt hx) (plainElem_bool (H := Unit) Try.underlying4 v)
  refine ⟨w', hrun, ⟨_, ho, fun y => ?_⟩, hg⟩
  by_cases hy : y = x
  · subst hy
    rw [atKey_put_same h1.isMap (k := .int .i64 y) trivial, setAt_same]
  · rw [atKey_put_other (by simpa using hy), h2, setAt_other _ _ hy]

/-- Block b is a map from integers to integers, of at most n entries, that holds m. -/
def MapI (w : World) (b n : Nat) (m : Int → Option Int) : Prop :=
  ∃ D : DataW Unit, w.ownsMap Try.prog 3 (plainElem Try.prog 3) b n D ∧ (∀ x, Maps.has D (.int .i64 x) = (m x).isSome) ∧ ∀ x, D.atKey (.int .i64 x) (.lit (.int .i64 0)) = .lit (.int .i64 ((m x).getD 0))

theorem MapI.lt {w : World} {b n : Nat} {m : Int → Option Int} (h : MapI w b n m) : b < w.heap.size := by
  obtain ⟨D, h1, _⟩ := h
  exact h1.lt
theorem MapI.made (w : World) : MapI (w.alloc (.map #[] 0)) w.heap.size 0 (fun _ => none) :=
  ⟨.map [], World.ownsMap_made w _ _ _, fun x => by simp [Maps.has], fun x => by simp [DataW.atKey]⟩
theorem MapI.kept {w w' : World} {b n : Nat} {m : Int → Option Int} (h : MapI w b n m) (hb : w'.heap[b]? = w.heap[b]?) : MapI w' b n m := by
  obtain ⟨D, ⟨es, clock, h1, h2⟩, h3⟩ := h
  exact ⟨D, ⟨es, clock, hb.trans h1, h2⟩, h3⟩

theorem MapI.look_ok {w : World} {b n : Nat} {m : Int → Option Int} (h : MapI w b n m) {x : Int} (hx : Fits x) (r : Int) (ok : Bool) (hr : (m x).getD 0 = r) (hok : (m x).isSome = ok) :
    (Instr.lookup 55 (.map (some b)) (.int .i64 x) true).run Try.prog w = .ok (.tuple #[.int .i64 r, .bool ok]) w := by
  obtain ⟨D, h1, h2, h3⟩ := h
  obtain ⟨v, ps, hrun, hv⟩ := h1.look_ok Try.keyInt Try.underlying55 (Try.zeroInt w) (plainElem_int Try.underlying3 (by decide)) (Try.keyOfInt hx)
  obtain ⟨y, rfl, hy, _⟩ := plainElem_int_inv Try.underlying3 hv
  rw [h3 x] at hy
  simp at hy
  rw [hrun, h2, hok, ← hy.1, hr]
theorem MapI.look {w : World} {b n : Nat} {m : Int → Option Int} (h : MapI w b n m) {x : Int} (hx : Fits x) (r : Int) (hr : (m x).getD 0 = r) :
    (Instr.lookup 55 (.map (some b)) (.int .i64 x) false).run Try.prog w = .ok (.int .i64 r) w := by
  obtain ⟨D, h1, h2, h3⟩ := h
  obtain ⟨v, ps, hrun, hv⟩ := h1.lookup Try.keyInt Try.underlying55 (Try.zeroInt w) (plainElem_int Try.underlying3 (by decide)) (Try.keyOfInt hx)
  obtain ⟨y, rfl, hy, _⟩ := plainElem_int_inv Try.underlying3 hv
  rw [h3 x] at hy
  simp at hy
  rw [hrun, ← hy.1, hr]

theorem MapI.put {w : World} {b n : Nat} {m : Int → Option Int} (h : MapI w b n m) (hn : n < maxLen) {x v : Int} (hx : Fits x) (hv : Fits v) :
    ∃ w', (Instr.mapUpdate 55 (.map (some b)) (.int .i64 x) (.int .i64 v)).run Try.prog w = .ok () w' ∧ MapI w' b (n + 1) (setAt m x (some v)) ∧ w.grownBy w' (some b) := by
  obtain ⟨D, h1, h2, h3⟩ := h
  obtain ⟨w', hrun, ho, hg⟩ := h1.update Try.keyInt Try.underlying55 hn (Try.keyOfInt hx) (plainElem_int (H := Unit) Try.underlying3 hv.wf)
  refine ⟨w', hrun, ⟨_, ho, fun y => ?_, fun y => ?_⟩, hg⟩
  · by_cases hy : y = x
    · subst hy
      rw [has_put_same h1.isMap (k := .int .i64 y) trivial, setAt_same]; rfl
    · rw [has_put_other (by simpa using hy), h2, setAt_other _ _ hy]
  · by_cases hy : y = x
    · subst hy
      rw [atKey_put_same h1.isMap (k := .int .i64 y) trivial, setAt_same]; rfl
    · rw [atKey_put_other (by simpa using hy), h3, setAt_other _ _ hy]

/-- A world that differs from another one in new blocks alone, or in one block besides. -/
theorem Below.grownBy {w w' : World} (h : Below w.heap.size w w') (row : Option Nat) : w.grownBy w' row := ⟨h.os, h.tape, h.output, h.size, fun k hk _ => h.block k hk⟩
theorem grownBy_trans {a b c : World} {row : Option Nat} (h : a.grownBy b row) (k : b.grownBy c row) : a.grownBy c row :=
  ⟨k.os.trans h.os, k.tape.trans h.tape, k.output.trans h.output, Nat.le_trans h.size k.size, fun i hi hr => (k.block i (Nat.lt_of_lt_of_le hi h.size) hr).trans (h.block i hi hr)⟩
end Go.Proofs.Ytpdcaoagpjcgbab
