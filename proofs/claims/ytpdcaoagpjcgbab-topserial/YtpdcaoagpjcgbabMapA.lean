/-
  Maps that the program makes, from integers to bools and to integers: what they hold at each number, and the laws of their look-ups and stores. It proves no statement by itself.
-/
import Derived.Test.YtpdcaoagpjcgbabHeapB
import Derived.Maps.OwnSet
import Derived.Deep.LoopGhost
import Derived.Maps.RangeWalk
set_option linter.unusedVariables false
set_option linter.unusedSimpArgs false
namespace Go.Proofs.Ytpdcaoagpjcgbab
open Go.RowKit Go.Maps

theorem Fits.wf {x : Int} (h : Fits x) : (Lit.int .i64 x).wf = true := by
  obtain ⟨h1, h2⟩ := h
  simp [Lit.wf, IntKind.min, IntKind.max, IntKind.signed, IntKind.bits]
  omega
theorem Try.keyInt : Keyed Try.prog 3 := int_keyed Try.underlying3
set_option maxRecDepth 100000 in
theorem Try.zeroInt (w : World) : (zeroValue 3).run Try.prog w = .ok (.int .i64 0) w := by rfl
set_option maxRecDepth 100000 in
theorem Try.zeroBool (w : World) : (zeroValue 4).run Try.prog w = .ok (.bool false) w := by rfl
theorem Try.keyOfInt {x : Int} (h : Fits x) : keyOf Try.prog 3 (.int .i64 x) = some (.int .i64 x) := keyOf_int_mk Try.underlying3 h.wf

/-- One place of a function changed. -/
def setAt {α : Type} (m : Int → α) (p : Int) (v : α) : Int → α := fun x => if x = p then v else m x
theorem setAt_same {α : Type} (m : Int → α) (p : Int) (v : α) : setAt m p v p = v := by simp [setAt]
theorem setAt_other {α : Type} (m : Int → α) {p x : Int} (v : α) (h : x ≠ p) : setAt m p v x = m x := by simp [setAt, h]

/-- Block b is a map from integers to bools, of at most n entries, that holds m. -/
def MapB (w : World) (b n : Nat) (m : Int → Bool) : Prop :=
  ∃ D : DataW Unit, w.ownsMap Try.prog 3 (plainElem Try.prog 4) b n D ∧ ∀ x, D.atKey (.int .i64 x) (.lit (.bool false)) = .lit (.bool (m x))

theorem MapB.lt {w : World} {b n : Nat} {m : Int → Bool} (h : MapB w b n m) : b < w.heap.size := by
  obtain ⟨D, h1, _⟩ := h
  exact h1.lt
theorem MapB.made (w : World) : MapB (w.alloc (.map #[] 0)) w.heap.size 0 (fun _ => false) :=
  ⟨.map [], World.ownsMap_made w _ _ _, fun x => by simp [DataW.atKey]⟩
theorem MapB.kept {w w' : World} {b n : Nat} {m : Int → Bool} (h : MapB w b n m) (hb : w'.heap[b]? = w.heap[b]?) : MapB w' b n m := by
  obtain ⟨D, ⟨es, clock, h1, h2⟩, h3⟩ := h
  exact ⟨D, ⟨es, clock, hb.trans h1, h2⟩, h3⟩
theorem MapB.mono {w : World} {b n n' : Nat} {m : Int → Bool} (h : MapB w b n m) (hn : n ≤ n') : MapB w b n' m := by
  obtain ⟨D, h1, h2⟩ := h
  exact ⟨D, h1.mono hn, h2⟩

theorem plainElem_bool_inv {e : TypeId} (he : Try.prog.underlying e = some .bool) {v : Value} {z : DataW Unit × List MemPlace} (h : plainElem Try.prog e v = some z) : ∃ x, v = .bool x ∧ z = (.lit (.bool x), []) := by
  unfold plainElem at h
  rw [he] at h
  cases v <;> simp at h
  exact ⟨_, rfl, h.symm⟩

/-- A look-up, as an equation for the walk. -/
theorem MapB.look {w : World} {b n : Nat} {m : Int → Bool} (h : MapB w b n m) {x : Int} (hx : Fits x) (r : Bool) (hr : m x = r) : (Instr.lookup 95 (.map (some b)) (.int .i64 x) false).run Try.prog w = .ok (.bool r) w := by
  obtain ⟨D, h1, h2⟩ := h
  obtain ⟨v, ps, hrun, hv⟩ := h1.lookup Try.keyInt Try.underlying95 (Try.zeroBool w) (plainElem_bool Try.underlying4 false) (Try.keyOfInt hx)
  obtain ⟨y, rfl, hy⟩ := plainElem_bool_inv Try.underlying4 hv
  rw [h2 x] at hy
  simp at hy
  rw [hrun, ← hy.1, hr]

/-- A store: what it leaves. -/
theorem MapB.put {w : World} {b n : Nat} {m : Int → Bool} (h : MapB w b n m) (hn : n < maxLen) {x : Int} (hx : Fits x) (v : Bool) :
    ∃ w', (Instr.mapUpdate 95 (.map (some b)) (.int .i64 x) (.bool v)).run Try.prog w = .ok () w' ∧ MapB w' b (n + 1) (setAt m x v) ∧ w.grownBy w' (some b) := by
  obtain ⟨D, h1, h2⟩ := h
  obtain ⟨w', hrun, ho, hg⟩ := h1.update Try.keyInt Try.underlying95 hn (Try.keyOfInt hx) (plainElem_bool (H := Unit) Try.underlying4 v)
  refine ⟨w', hrun, ⟨_, ho, fun y => ?_⟩, hg⟩
  by_cases hy : y = x
  · subst hy
    rw [atKey_put_same h1.isMap (k := .int .i64 y) trivial, setAt_same]
  · rw [atKey_put_other (by simpa using hy), h2, setAt_other _ _ hy]

/-- Block b is a map from integers to integers, of at most n entries, that holds m. -/
def MapI (w : World) (b n : Nat) (m : Int → Option Int) : Prop :=
  ∃ D : DataW Unit, w.ownsMap Try.prog 3 (plainElem Try.prog 3) b n D ∧ (∀ x, Maps.has D (.int .i64 x) = (m x).isSome) ∧ ∀ x, D.atKey (.int .i64 x) (.lit (.int .i64 0)) = .lit (.int .i64 ((m x).getD 0))

theorem MapI.lt {w : World} {b n : Nat} {m : Int → Option Int} (h : MapI w b n m) : b < w.heap.size := by
  obtain ⟨D, h1, _⟩ := h
  exact h1.lt
theorem MapI.made (w : World) : MapI (w.alloc (.map #[] 0)) w.heap.size 0 (fun _ => none) :=
  ⟨.map [], World.ownsMap_made w _ _ _, fun x => by simp [Maps.has], fun x => by simp [DataW.atKey]⟩
theorem MapI.kept {w w' : World} {b n : Nat} {m : Int → Option Int} (h : MapI w b n m) (hb : w'.heap[b]? = w.heap[b]?) : MapI w' b n m := by
  obtain ⟨D, ⟨es, clock, h1, h2⟩, h3⟩ := h
  exact ⟨D, ⟨es, clock, hb.trans h1, h2⟩, h3⟩

theorem MapI.look_ok {w : World} {b n : Nat} {m : Int → Option Int} (h : MapI w b n m) {x : Int} (hx : Fits x) (r : Int) (ok : Bool) (hr : (m x).getD 0 = r) (hok : (m x).isSome = ok) :
    (Instr.lookup 55 (.map (some b)) (.int .i64 x) true).run Try.prog w = .ok (.tuple #[.int .i64 r, .bool ok]) w := by
  obtain ⟨D, h1, h2, h3⟩ := h
  obtain ⟨v, ps, hrun, hv⟩ := h1.look_ok Try.keyInt Try.underlying55 (Try.zeroInt w) (plainElem_int Try.underlying3 (by decide)) (Try.keyOfInt hx)
  obtain ⟨y, rfl, hy, _⟩ := plainElem_int_inv Try.underlying3 hv
  rw [h3 x] at hy
  simp at hy
  rw [hrun, h2, hok, ← hy.1, hr]
theorem MapI.look {w : World} {b n : Nat} {m : Int → Option Int} (h : MapI w b n m) {x : Int} (hx : Fits x) (r : Int) (hr : (m x).getD 0 = r) :
    (Instr.lookup 55 (.map (some b)) (.int .i64 x) false).run Try.prog w = .ok (.int .i64 r) w := by
  obtain ⟨D, h1, h2, h3⟩ := h
  obtain ⟨v, ps, hrun, hv⟩ := h1.lookup Try.keyInt Try.underlying55 (Try.zeroInt w) (plainElem_int Try.underlying3 (by decide)) (Try.keyOfInt hx)
  obtain ⟨y, rfl, hy, _⟩ := plainElem_int_inv Try.underlying3 hv
  rw [h3 x] at hy
  simp at hy
  rw [hrun, ← hy.1, hr]

theorem MapI.put {w : World} {b n : Nat} {m : Int → Option Int} (h : MapI w b n m) (hn : n < maxLen) {x v : Int} (hx : Fits x) (hv : Fits v) :
    ∃ w', (Instr.mapUpdate 55 (.map (some b)) (.int .i64 x) (.int .i64 v)).run Try.prog w = .ok () w' ∧ MapI w' b (n + 1) (setAt m x (some v)) ∧ w.grownBy w' (some b) := by
  obtain ⟨D, h1, h2, h3⟩ := h
  obtain ⟨w', hrun, ho, hg⟩ := h1.update Try.keyInt Try.underlying55 hn (Try.keyOfInt hx) (plainElem_int (H := Unit) Try.underlying3 hv.wf)
  refine ⟨w', hrun, ⟨_, ho, fun y => ?_, fun y => ?_⟩, hg⟩
  · by_cases hy : y = x
    · subst hy
      rw [has_put_same h1.isMap (k := .int .i64 y) trivial, setAt_same]; rfl
    · rw [has_put_other (by simpa using hy), h2, setAt_other _ _ hy]
  · by_cases hy : y = x
    · subst hy
      rw [atKey_put_same h1.isMap (k := .int .i64 y) trivial, setAt_same]; rfl
    · rw [atKey_put_other (by simpa using hy), h3, setAt_other _ _ hy]

/-- A world that differs from another one in new blocks alone, or in one block besides. -/
theorem Below.grownBy {w w' : World} (h : Below w.heap.size w w') (row : Option Nat) : w.grownBy w' row := ⟨h.os, h.tape, h.output, h.size, fun k hk _ => h.block k hk⟩
theorem grownBy_trans {a b c : World} {row : Option Nat} (h : a.grownBy b row) (k : b.grownBy c row) : a.grownBy c row :=
  ⟨k.os.trans h.os, k.tape.trans h.tape, k.output.trans h.output, Nat.le_trans h.size k.size, fun i hi hr => (k.block i (Nat.lt_of_lt_of_le hi h.size) hr).trans (h.block i hi hr)⟩
end Go.Proofs.Ytpdcaoagpjcgbab

/-
  Maps that the program makes, from integers to values of any kind: what they hold at each number; look-ups, stores, and ranging over them in an order that nobody knows. It proves no statement by itself.
-/
namespace Go.Proofs.Ytpdcaoagpjcgbab
open Go.RowKit Go.Maps

/-- An element read as the value that it is. -/
def rawElem (v : Value) : Option (DataW Value × List MemPlace) := some (.held v, [])
def heldOr (z : DataW Value) : Option Value → DataW Value
  | some v => .held v
  | none => z
/-- The datum of a map says what it holds at each number. -/
def Reads (D : DataW Value) (m : Int → Option Value) : Prop := ∀ x, Maps.has D (.int .i64 x) = (m x).isSome ∧ ∀ z, D.atKey (.int .i64 x) z = heldOr z (m x)

/-- Block b is a map from integers, of at most n entries, that holds m. -/
def MapR (w : World) (b n : Nat) (m : Int → Option Value) : Prop := ∃ D : DataW Value, w.ownsMap Try.prog 3 rawElem b n D ∧ Reads D m
/-- .. while a loop ranges over it, its iterator in block r; left: the numbers that are still to come. -/
def RangeR (w : World) (b r n : Nat) (m : Int → Option Value) (left : Int → Bool) (cnt : Nat) : Prop :=
  ∃ (D : DataW Value) (L : Lit → Bool), w.ranges Try.prog 3 rawElem b r n D L cnt ∧ Reads D m ∧ ∀ x, left x = L (.int .i64 x)

theorem MapR.lt {w : World} {b n : Nat} {m : Int → Option Value} (h : MapR w b n m) : b < w.heap.size := by
  obtain ⟨D, h1, _⟩ := h
  exact h1.lt
theorem MapR.made (w : World) : MapR (w.alloc (.map #[] 0)) w.heap.size 0 (fun _ => none) :=
  ⟨.map [], World.ownsMap_made w _ _ _, fun x => ⟨by simp [Maps.has], fun z => by simp [DataW.atKey, heldOr]⟩⟩
theorem MapR.kept {w w' : World} {b n : Nat} {m : Int → Option Value} (h : MapR w b n m) (hb : w'.heap[b]? = w.heap[b]?) : MapR w' b n m := by
  obtain ⟨D, ⟨es, clock, h1, h2⟩, h3⟩ := h
  exact ⟨D, ⟨es, clock, hb.trans h1, h2⟩, h3⟩
theorem MapR.mono {w : World} {b n n' : Nat} {m : Int → Option Value} (h : MapR w b n m) (hn : n ≤ n') : MapR w b n' m := by
  obtain ⟨D, h1, h2⟩ := h
  exact ⟨D, h1.mono hn, h2⟩
theorem MapR.isMapBlock {w : World} {b n : Nat} {m : Int → Option Value} (h : MapR w b n m) : ∃ es clock, w.heap[b]? = some (.map es clock) := by
  obtain ⟨D, ⟨es, clock, h1, h2⟩, h3⟩ := h
  exact ⟨es, clock, h1⟩

theorem MapR.look_ok {w : World} {b n : Nat} {m : Int → Option Value} (h : MapR w b n m) {t e : TypeId} (ht : Try.prog.underlying t = some (.map 3 e)) {zv : Value} (hz : (zeroValue e).run Try.prog w = .ok zv w) {x : Int} (hx : Fits x) (v : Value) (ok : Bool) (hv : (m x).getD zv = v) (hok : (m x).isSome = ok) :
    (Instr.lookup t (.map (some b)) (.int .i64 x) true).run Try.prog w = .ok (.tuple #[v, .bool ok]) w := by
  obtain ⟨D, h1, h2⟩ := h
  obtain ⟨u, ps, hrun, hu⟩ := h1.look_ok Try.keyInt ht hz (zd := .held zv) (zp := []) rfl (Try.keyOfInt hx)
  rw [(h2 x).2] at hu
  have e1 : u = v := by
    have : (some (DataW.held u, ([] : List MemPlace))) = some (heldOr (.held zv) (m x), ps) := hu
    cases hm : m x with
    | none => rw [hm] at this hv; simp [heldOr] at this hv; rw [this.1, hv]
    | some y => rw [hm] at this hv; simp [heldOr] at this hv; rw [this.1, hv]
  rw [hrun, (h2 x).1, hok, e1]
theorem MapR.look {w : World} {b n : Nat} {m : Int → Option Value} (h : MapR w b n m) {t e : TypeId} (ht : Try.prog.underlying t = some (.map 3 e)) {zv : Value} (hz : (zeroValue e).run Try.prog w = .ok zv w) {x : Int} (hx : Fits x) (v : Value) (hv : (m x).getD zv = v) :
    (Instr.lookup t (.map (some b)) (.int .i64 x) false).run Try.prog w = .ok v w := by
  obtain ⟨D, h1, h2⟩ := h
  obtain ⟨u, ps, hrun, hu⟩ := h1.lookup Try.keyInt ht hz (zd := .held zv) (zp := []) rfl (Try.keyOfInt hx)
  rw [(h2 x).2] at hu
  have e1 : u = v := by
    have : (some (DataW.held u, ([] : List MemPlace))) = some (heldOr (.held zv) (m x), ps) := hu
    cases hm : m x with
    | none => rw [hm] at this hv; simp [heldOr] at this hv; rw [this.1, hv]
    | some y => rw [hm] at this hv; simp [heldOr] at this hv; rw [this.1, hv]
  rw [hrun, e1]

theorem Reads.put {D : DataW Value} {m : Int → Option Value} (h : Reads D m) (hD : IsMap D) (x : Int) (v : Value) : Reads (D.put (.int .i64 x) (.held v)) (setAt m x (some v)) := by
  intro y
  by_cases hy : y = x
  · subst hy
    rw [setAt_same]
    exact ⟨has_put_same hD (k := .int .i64 y) trivial _, fun z => atKey_put_same hD (k := .int .i64 y) trivial _ z⟩
  · rw [setAt_other _ _ hy]
    exact ⟨(has_put_other (by simpa using hy) _).trans (h y).1, fun z => (atKey_put_other (by simpa using hy) _ z).trans ((h y).2 z)⟩

theorem MapR.put {w : World} {b n : Nat} {m : Int → Option Value} (h : MapR w b n m) {t e : TypeId} (ht : Try.prog.underlying t = some (.map 3 e)) (hn : n < maxLen) {x : Int} (hx : Fits x) (v : Value) :
    ∃ w', (Instr.mapUpdate t (.map (some b)) (.int .i64 x) v).run Try.prog w = .ok () w' ∧ MapR w' b (n + 1) (setAt m x (some v)) ∧ w.grownBy w' (some b) := by
  obtain ⟨D, h1, h2⟩ := h
  obtain ⟨w', hrun, ho, hg⟩ := h1.update Try.keyInt ht hn (Try.keyOfInt hx) (show rawElem v = some (.held v, []) from rfl)
  exact ⟨w', hrun, ⟨_, ho, h2.put h1.isMap x v⟩, hg⟩

theorem RangeR.owns {w : World} {b r n : Nat} {m : Int → Option Value} {left : Int → Bool} {cnt : Nat} (h : RangeR w b r n m left cnt) : MapR w b n m := by
  obtain ⟨D, L, h1, h2, _⟩ := h
  exact ⟨D, h1.owns, h2⟩
theorem RangeR.left_eq {w : World} {b r n : Nat} {m : Int → Option Value} {left : Int → Bool} {cnt : Nat} (h : RangeR w b r n m left cnt) : w.rangeLeft b r = cnt := by
  obtain ⟨D, L, h1, _⟩ := h
  exact h1.left_eq
theorem RangeR.lt {w : World} {b r n : Nat} {m : Int → Option Value} {left : Int → Bool} {cnt : Nat} (h : RangeR w b r n m left cnt) : r < w.heap.size := by
  obtain ⟨D, L, h1, _⟩ := h
  exact h1.lt
theorem RangeR.ne {w : World} {b r n : Nat} {m : Int → Option Value} {left : Int → Bool} {cnt : Nat} (h : RangeR w b r n m left cnt) : r ≠ b := by
  obtain ⟨D, L, h1, _⟩ := h
  exact h1.ne
theorem RangeR.kept {w w' : World} {b r n : Nat} {m : Int → Option Value} {left : Int → Bool} {cnt : Nat} (h : RangeR w b r n m left cnt) (hb : w'.heap[b]? = w.heap[b]?) (hr : w'.heap[r]? = w.heap[r]?) : RangeR w' b r n m left cnt := by
  obtain ⟨D, L, ⟨es, clock, since, seen, c0, h1, F, hs, hD, h2, rest⟩, h3⟩ := h
  exact ⟨D, L, ⟨es, clock, since, seen, c0, hb.trans h1, F, hs, hD, hr.trans h2, rest⟩, h3⟩

section
variable (w : World) {ops : Array Oper} {rest : List Oper} {o : Oper} {a : Act} {Q : Exit → Act → World → Prop}

/-- The beginning of a range over a map. -/
theorem wpList_range_R (hg : o.guard = none) (m : Operand) (t : TypeId) (hop : o.op = Op.range t m) (e : TypeId) (ht : Try.prog.underlying t = some (.map 3 e)) (b n : Nat) (f : Int → Option Value)
    (hm : a.eval m = .map (some b)) (hown : MapR w b n f)
    (hK : ∀ w' cnt, RangeR w' b w.heap.size n f (fun x => (f x).isSome) cnt → w.grownBy w' none → w'.heap.size = w.heap.size + 1 → wpList Try.prog ops Q rest (a.put o.dst (.pointer (some ⟨w.heap.size, 0, none⟩))) w') :
    wpList Try.prog ops Q (o :: rest) a w := by
  obtain ⟨D, h1, h2⟩ := hown
  exact wpList_range_own w hg m t hop 3 e Try.keyInt ht rawElem b n D hm h1 fun w' r1 r2 r3 => hK w' _ ⟨D, _, r1, h2, fun x => ((h2 x).1).symm⟩ r2 r3

/-- One step of it. -/
theorem wpList_next_R {β : Type} (hg : o.guard = none) (it : Operand) (hop : o.op = Op.next it false) (mkV : β → Value) (b r n : Nat) (f : Int → Option Value) (left : Int → Bool) (cnt : Nat) (invV : ∀ x v, f x = some v → ∃ c, v = mkV c)
    (hit : a.eval it = .pointer (some ⟨r, 0, none⟩)) (h : RangeR w b r n f left cnt)
    (hDone : cnt = 0 → (∀ x, left x = false) → wpList Try.prog ops Q rest (a.put o.dst (.tuple #[.bool false])) w)
    (hMore : ∀ (x : Int) (c : β) (w' : World) (cnt' : Nat), Fits x → left x = true → f x = some (mkV c) → RangeR w' b r n f (fun z => left z && !decide (z = x)) cnt' → cnt' < cnt →
      w.grownBy w' (some r) → w'.heap.size = w.heap.size → (Instr.entry (.pointer (some ⟨r, 0, none⟩))).run Try.prog w' = .ok (.tuple #[.int .i64 x, mkV c]) w' → wpList Try.prog ops Q rest (a.put o.dst (.tuple #[.bool true, .int .i64 x, mkV c])) w') :
    wpList Try.prog ops Q (o :: rest) a w := by
  obtain ⟨D, L, h1, h2, h3⟩ := h
  have inv : ∀ (x : Int) (v : Value) (y : DataW Value × List MemPlace), rawElem v = some y → (∀ zd, D.atKey (.int .i64 x) zd = y.1) → f x = some v := fun x v y hv hat => by
    have e1 : y.1 = .held v := by injection hv with hv; rw [← hv]
    have e2 := (hat (.lit (.bool true))).symm.trans ((h2 x).2 (.lit (.bool true)))
    rw [e1] at e2
    cases hm : f x with
    | none => rw [hm] at e2; cases e2
    | some u => rw [hm] at e2; simp [heldOr] at e2; rw [e2]
  refine wpList_plain hg fun K' hK' => ?_
  unfold Oper.wp
  rcases h1.next Try.keyInt o.type with ⟨h0, hl, hrun⟩ | ⟨key, v, kl, y, w', cnt', hkey, hlk, hv, hat, hrun, hrg, hlt, hgr, hsz, hen⟩
  · simp [execOp, hop, hit, hrun, Result.andThen]
    exact hK' _ _ (hDone h0 (fun x => (h3 x).trans (hl _)))
  · obtain ⟨x, rfl, rfl, hwx⟩ := Maps.keyOf_int_inv Try.underlying3 hkey
    have hfx := inv x v y hv hat
    obtain ⟨c, rfl⟩ := invV x v hfx
    simp [execOp, hop, hit, hrun, Result.andThen]
    refine hK' _ _ (hMore x c w' cnt' (Fits.of_wf hwx) ((h3 x).trans hlk) hfx ⟨D, _, hrg, h2, fun z => ?_⟩ hlt hgr hsz hen)
    show (left z && !decide (z = x)) = _
    rw [h3 z]
    by_cases hz : z = x
    · subst hz; rw [WideAt.sameKey_self (a := .int .i64 z) trivial]; simp
    · rw [Maps.sameKey_ne (by simpa using hz)]; simp [hz]
end
end Go.Proofs.Ytpdcaoagpjcgbab

