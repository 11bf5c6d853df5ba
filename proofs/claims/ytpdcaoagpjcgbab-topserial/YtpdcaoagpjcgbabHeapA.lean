/-
  Common ground of the proofs over this translation: how a law's arguments are opened and handed back, and how a slice of integers in memory is spoken of. It proves no statement by itself.
-/
import Derived.Test.YtpdcaoagpjcgbabRows
import Derived.WalkKit
import Derived.WalkSpells
import Derived.WalkLawsBesides
import Derived.ProofKit
import Derived.OpenShut
import Derived.SizedLaws
import Derived.ChangeOld
import Derived.Below
import Derived.Lib.SmallJoins
import Derived.Laws.CopyOwn
import Derived.Deep.QuietTactic
import Derived.BigQuiet
import Derived.Deep.OwnRows
import Derived.Deep.RegionLaw
import Derived.Deep.RegionHeld3
set_option linter.unusedVariables false
set_option linter.unusedSimpArgs false
namespace Go.Proofs.Ytpdcaoagpjcgbab
open Go.ChangeShapes Go.WideShapes Go.ChangeAt Go.RowKit Go.Joins

theorem Try.own : ownKnob Try.prog.godebug = none := by kernel_rfl
theorem Try.laidOut : laidOutB Try.prog = true := by kernel_rfl

/-- A fact kept from the walk, its statement left as it is. -/
theorem Lib.hide {p : Prop} (h : p) : Hid p := h

theorem Below.allocs {a w : World} {o : Obj} (h : Below a.heap.size a w) : Below a.heap.size a (w.alloc o) := h.alloc h.size _
theorem Below.next {a b c : World} (h : Below a.heap.size a b) (k : Below b.heap.size b c) : Below a.heap.size a c := h.trans (k.mono h.size)
theorem Below.past {a b : World} {o : Obj} (h : Below (a.alloc o).heap.size (a.alloc o) b) : a.heap.size < b.heap.size := by
  have h1 := h.size
  have h2 : (a.alloc o).heap.size = a.heap.size + 1 := by simp
  omega
theorem bcell {W w1 : World} (hb : Below W.heap.size W w1) : (∀ b o, b < W.heap.size → w1.cell? ⟨b, o, none⟩ = W.cell? ⟨b, o, none⟩) ∧ (∀ b o, b < W.heap.size → w1.frozen? ⟨b, o, none⟩ = W.frozen? ⟨b, o, none⟩) ∧ W.heap.size ≤ w1.heap.size :=
  ⟨fun b o h => hb.cell (p := ⟨b, o, none⟩) h, fun b o h => hb.frozen (p := ⟨b, o, none⟩) h, hb.size⟩

/-- Below the heap's old size nothing has turned: all arguments read as they did. -/
theorem trodAll_below {H : Type} {enc : TypeId × Value → H} {W W' : World} (hb : Below W.heap.size W W') :
    ∀ (ts : List TypeId) (vs : List Value) (ds : List (DataW H)) (p : List MemPlace),
      ts.all (fun t => Try.prog.readableRec t && decide (t < Try.prog.types.size)) = true →
      DataW.TrodAll enc Try.prog W 0 (fun _ => true) true ts vs ds p →
      DataW.TrodAll enc Try.prog W' 0 (fun b => decide (b < W.heap.size)) true ts vs ds p := by
  intro ts
  induction ts with
  | nil =>
    intro vs ds p _ h
    obtain ⟨rfl, rfl, rfl⟩ := trodAll_nil h
    exact trodAll_mk0
  | cons t ts ih =>
    intro vs ds p ht h
    obtain ⟨v, vs', d, ds', p0, q, rfl, rfl, rfl, h0, hr⟩ := trodAll_cons h
    simp only [List.all_cons, Bool.and_eq_true, decide_eq_true_eq] at ht
    have lt0 : ∀ x ∈ p0, x.block < W.heap.size := by obtain ⟨m, hm⟩ := h0; exact DataW.trod_lt m _ _ _ hm
    exact trodAll_cons_mk (Below.trod Try.laidOut ht.1.1 ht.1.2 h0 hb lt0) (ih _ _ _ ht.2 hr)

theorem trodAll_length {H : Type} {enc : TypeId × Value → H} {P : Program} {W : World} {b : Nat} {sp : Nat → Bool} {hd : Bool} :
    ∀ (ts : List TypeId) (vs : List Value) (ds : List (DataW H)) (p : List MemPlace), DataW.TrodAll enc P W b sp hd ts vs ds p → ds.length = ts.length := by
  intro ts
  induction ts with
  | nil => intro vs ds p h; obtain ⟨rfl, rfl, rfl⟩ := trodAll_nil h; rfl
  | cons t ts ih =>
    intro vs ds p h
    obtain ⟨v, vs', d, ds', p0, q, rfl, rfl, rfl, h0, hr⟩ := trodAll_cons h
    simp [ih _ _ _ hr]

set_option maxRecDepth 100000 in
/-- A law: the call returns true and turns nothing that was there: then its row holds. -/
theorem law_lift {os : Os} (started : os.Started) {H : Type} {enc : TypeId × Value → H} {F : FuncId} {fn : Func} {s : ChangeSpec} (hF : Try.prog.funcs[F]? = some fn)
    (noInit : Try.prog.inits.idxOf? F = none) (hvars : s.vars = []) (hrt : fn.resultTypes = #[4])
    (hread : fn.params.toList.all (fun t => Try.prog.readableRec t && decide (t < Try.prog.types.size)) = true)
    (hs : ∀ (H : Type) (ds : List (DataW H)), ds.length = fn.params.toList.length → s.fn H ds = { results := [.lit (.bool true)], args := ds })
    (witness : ∃ (w : World) (tape : Tape) (i : Input), w.os = os ∧ (w.forCall tape i).Shaped Try.prog ∧ i.vars = [] ∧ Input.okWide Try.prog (w.forCall tape i) .any w.heap.size F i ∧
      s.pre6 enc Try.prog fn [] false (w.forCall tape i).memory i.args ∧ ({} : Assume).holds Try.prog (lone (Frame.enter Try.prog F i.args .normal) [] (w.forCall tape i)))
    (contract : ∀ (W : World) (base : Nat) (args : Array Value) (ds : List (DataW H)) (p : List MemPlace),
      (∀ (j : Nat) t v, fn.params[j]? = some t → args[j]? = some v → Value.okWide Try.prog W .any base t v) →
      DataW.TrodAll enc Try.prog W 0 (fun _ => true) true fn.params.toList args.toList ds p →
      (DataW.weightsEach Try.prog fn.params.toList ds).all (· ≤ reachBytes) = true →
      Calls Try.prog F args W fun e W' => e = .returned (.bool true) ∧ Below W.heap.size W W') :
    ReturnsInHanded {} Try.checked os F .any (s.pre6 enc Try.prog fn [] false) (s.post enc Try.prog fn false true false false) := by
  refine returnsInHanded_of_change_sized (C := Try.checked) Try.own started noInit hF witness ?_
  intro W base args ds gs before hval hW _ hsz _
  have hW' := hW
  obtain ⟨p, q, hA, hV, rfl, hfz, hnd⟩ := hW
  rw [hvars] at hV
  obtain ⟨rfl, rfl⟩ := trodVars_none hV
  have hA' : DataW.TrodAll enc Try.prog W 0 (fun _ => true) true fn.params.toList args.toList ds p := hA
  have hsz' : (DataW.weightsEach Try.prog fn.params.toList ds).all (· ≤ reachBytes) = true := by
    have e : s.plain.varTypes Try.checked.prog = [] := by
      unfold DataSpec.varTypes ChangeSpec.plain
      simp [hvars]
    have h2 : (DataW.weightsEach Try.prog (fn.params.toList ++ s.plain.varTypes Try.checked.prog) (ds ++ [])).all (· ≤ reachBytes) = true := hsz
    rw [e, List.append_nil, List.append_nil] at h2
    exact h2
  refine (contract W base args ds p hval hA' hsz').mono fun e W' ⟨he, bel⟩ => ?_
  subst he
  have hfn := hs H (ds ++ []) (by simpa using trodAll_length _ _ _ _ hA')
  refine ⟨_, rfl, ds, [], p ++ [], [], p, [], hW', ?_, ?_, ?_, bel.frame _, fun h => by cases h⟩
  · rw [hfn, hrt]; exact trodAll_mk1 (shut_bool Try.underlying4 _)
  · rw [hfn, List.append_nil]; exact trodAll_below bel _ _ _ _ hread hA'
  · rw [hfn, hvars]; rfl

theorem sized_at {H : Type} {ts : List TypeId} {ds : List (DataW H)} (h : (DataW.weightsEach Try.prog ts ds).all (· ≤ reachBytes) = true) {j : Nat} {t : TypeId} {d : DataW H} (ht : ts[j]? = some t) (hd : ds[j]? = some d) :
    ∀ n ∈ d.weights Try.prog t, n ≤ reachBytes := fun n hn => by
  have := List.all_eq_true.1 h n (DataW.weights_mem_each ht hd n hn)
  simpa using this

/-- A number of 64 bits. -/
def Fits (n : Int) : Prop := -9223372036854775808 ≤ n ∧ n ≤ 9223372036854775807
theorem Fits.of_wf {n : Int} (h : (Lit.int .i64 n).wf = true) : Fits n := by
  simp [Lit.wf, IntKind.min, IntKind.max, IntKind.signed, IntKind.bits] at h
  exact ⟨by omega, by omega⟩

/-- The slice at address a reads as the list xs: nil and empty slices let in. -/
def Ints (w : World) (a : Option Addr) (xs : List Int) : Prop :=
  xs = [] ∨ ∃ b o, a = some ⟨b, o, none⟩ ∧ b < w.heap.size ∧ ∀ i, i < xs.length → w.cell? ⟨b, o + i, none⟩ = some (.int .i64 (xs.getD i 0))

theorem Ints.nil (w : World) (a : Option Addr) : Ints w a [] := .inl rfl
theorem Ints.below {w w' : World} {a : Option Addr} {xs : List Int} (h : Ints w a xs) (hb : Below w.heap.size w w') : Ints w' a xs := by
  rcases h with h | ⟨b, o, e, hlt, hc⟩
  · exact .inl h
  · exact .inr ⟨b, o, e, Nat.lt_of_lt_of_le hlt hb.size, fun i hi => (hb.cell (p := ⟨b, o + i, none⟩) hlt).trans (hc i hi)⟩

set_option maxRecDepth 100000 in
theorem open_value {H : Type} {enc : TypeId × Value → H} {W : World} {base : Nat} {v : Value} {d : DataW H} {p : List MemPlace}
    (hv : Value.okWide Try.prog W .any base 34 v) (h : DataW.Trod enc Try.prog W 0 (fun _ => true) true 34 v d p) :
    ∃ k n : Int, v = .agg #[.int .i64 k, .int .i64 n] ∧ Fits k ∧ Fits n := by
  obtain ⟨c0, c1, y0, y1, m, rfl, rfl, rfl, hy0, hy1⟩ := open_agg2 Try.underlying34 (by kernel_rfl) (by kernel_rfl) hv h
  obtain ⟨a, e0, _, wa⟩ := DataW.trod_int Try.underlying3 hy0
  obtain ⟨b, e1, _, wb⟩ := DataW.trod_int Try.underlying3 hy1
  simp at e0 e1
  subst e0 e1
  exact ⟨a, b, rfl, Fits.of_wf wa, Fits.of_wf wb⟩

theorem ints_of_trod {H : Type} {enc : TypeId × Value → H} {W : World} {fuel : Nat} {v : Value} {x : DataW H × List MemPlace}
    (hf : DataW.trod enc Try.prog W 0 (fun _ => true) true fuel 25 [v] = some x) (hw : ∀ n ∈ x.1.weights Try.prog 25, n ≤ reachBytes) :
    ∃ (a : Option Addr) (cap : Nat) (xs : List Int), v = .slice a xs.length cap ∧ xs.length ≤ cap ∧ cap * 8 ≤ 140737488351232 ∧ Ints W a xs ∧ (∀ n ∈ xs, Fits n) ∧ (a = none → cap = 0) := by
  rcases open_ints Try.underlying25 Try.underlying3 (by kernel_rfl) hf with ⟨hcs, _⟩ | ⟨a, len, cap, zs, hcs, _, hl, hm, hz, hx, hcell, hwz⟩
  · simp at hcs
    exact ⟨none, 0, [], by simp [hcs], by simp, by omega, .inl rfl, by simp, fun _ => rfl⟩
  · simp at hcs hz
    have hlen : (zs.take len).length = len := by simp; omega
    have hb : Try.prog.bytesOf 3 = 8 := by kernel_rfl
    have hcap : cap * 8 ≤ 140737488351232 := by
      have := hw ((len + (cap - len)) * 8) (by
        subst hx
        simp [DataW.weights, Try.underlying25, hb, lits, hz]
        omega)
      have e : reachBytes = 140737488351232 := by decide
      rw [e] at this
      omega
    refine ⟨some a, cap, zs.take len, by rw [hcs, hlen], by omega, hcap, ?_, fun n hn => Fits.of_wf (hwz n (List.mem_of_mem_take hn)), by simp⟩
    by_cases h0 : len = 0
    · left; simp [h0]
    · right
      obtain ⟨b, o, sp⟩ := a
      have hc0 := hcell 0 (by omega)
      have hspot : sp = none := by simpa [Addr.add] using World.cell?_spot hc0
      subst hspot
      have hlt : b < W.heap.size := by
        rcases Nat.lt_or_ge b W.heap.size with h | h
        · exact h
        · have : W.heap[b]? = none := Array.getElem?_eq_none h
          simp [World.cell?, Addr.add, this] at hc0
      refine ⟨b, o, rfl, hlt, fun i hi => ?_⟩
      rw [hlen] at hi
      have := hcell i (by omega)
      have e2 : (zs.take len).getD i 0 = zs.getD i 0 := by simp [List.getD_eq_getElem?_getD, List.getElem?_take, hi]
      rw [e2, ← this]
      have e3 : (⟨b, o, none⟩ : Addr).add i = ⟨b, o + i, none⟩ := by
        unfold Addr.add
        by_cases hi0 : i = 0 <;> simp [hi0]
      rw [e3]

set_option maxRecDepth 100000 in
theorem open_heap {H : Type} {enc : TypeId × Value → H} {W : World} {base : Nat} {v : Value} {d : DataW H} {p : List MemPlace}
    (hv : Value.okWide Try.prog W .any base 27 v) (h : DataW.Trod enc Try.prog W 0 (fun _ => true) true 27 v d p) (hw : ∀ n ∈ d.weights Try.prog 27, n ≤ reachBytes) :
    ∃ (a : Option Addr) (cap : Nat) (xs : List Int) (top : Int), v = .agg #[.slice a xs.length cap, .int .i64 top] ∧ xs.length ≤ cap ∧ cap * 8 ≤ 140737488351232 ∧ Ints W a xs ∧ (∀ n ∈ xs, Fits n) ∧ Fits top ∧ (a = none → cap = 0) := by
  obtain ⟨c0, c1, y0, y1, m, rfl, rfl, rfl, hy0, hy1⟩ := open_agg2 Try.underlying27 (by kernel_rfl) (by kernel_rfl) hv h
  obtain ⟨b, e1, _, wb⟩ := DataW.trod_int Try.underlying3 hy1
  simp at e1
  subst e1
  obtain ⟨a, cap, xs, rfl, h1, h2, h3, h4, h5⟩ := ints_of_trod hy0 (fun n hn => hw n (by
    simp [DataW.weights, Try.underlying27, DataW.weightsEach]
    exact Or.inl hn))
  exact ⟨a, cap, xs, b, rfl, h1, h2, h3, h4, Fits.of_wf wb, h5⟩

end Go.Proofs.Ytpdcaoagpjcgbab

/-
  The walk of heap.New, and rows of integers that a call itself has made. It proves no statement by itself.
-/
namespace Go.Proofs.Ytpdcaoagpjcgbab
open Go.RowKit

theorem Try.intInfo : (Try.prog.info? 3).map (fun i => (i.zero, i.size, i.bytes)) = some (some (.int .i64 0), 1, 8) := by kernel_rfl

/-- The slice value v holds the numbers xs in a block of the call's own (from base on), or is nil and xs empty. -/
def Own (w : World) (base : Nat) (v : Value) (xs : List Int) : Prop := w.ownsRow base 3 1 v xs.length (xs.map (Value.int .i64))

theorem Own.ints {w : World} {base : Nat} {v : Value} {xs : List Int} (h : Own w base v xs) : ∃ a cap, v = .slice a xs.length cap ∧ Ints w a xs := by
  rcases h.2 with ⟨rfl, h0⟩ | ⟨g, cap, cur, rfl, hb, hg, hn, hm, hs, ht⟩
  · refine ⟨none, 0, by rw [h0], .inl (List.eq_nil_of_length_eq_zero h0)⟩
  · refine ⟨_, cap, rfl, ?_⟩
    rcases Nat.eq_zero_or_pos xs.length with h0 | h0
    · exact .inl (List.eq_nil_of_length_eq_zero h0)
    · have hlt : g < w.heap.size := by
        rcases Nat.lt_or_ge g w.heap.size with h' | h'
        · exact h'
        · rw [Array.getElem?_eq_none h'] at hg; cases hg
      refine .inr ⟨g, 0, rfl, hlt, fun i hi => ?_⟩
      have := World.ownsRow.cellAt h i (by omega)
      rw [Nat.zero_add, this]
      simp [List.getD_eq_getElem?_getD, List.getElem?_eq_getElem hi]

theorem Own.reads {w : World} {base n c : Nat} {a : Option Addr} {xs : List Int} (h : Own w base (.slice a n c) xs) : xs.length = n ∧ Ints w a xs := by
  obtain ⟨a', cap', e, hi⟩ := h.ints
  injection e with e1 e2 e3
  subst e1
  exact ⟨e2.symm, hi⟩

/-- What heap.New and the reference hand back for a size in range. -/
def NewPost (w : World) (n : Nat) (e : Ending) (w' : World) : Prop :=
  ∃ a cap, e = .returned (.tuple #[.agg #[.slice a n cap, .int .i64 1], .int .i64 0]) ∧ Own w' w.heap.size (.slice a n cap) (List.replicate n 0) ∧ Below w.heap.size w w'

/-- A row that make has just laid is owned, whatever is laid behind it. -/
theorem own_made {w' : World} {base n g : Nat} (hb : base ≤ g) (hm : n ≤ maxLen) (hg : w'.heap[g]? = some (.cells (madeCells #[.int .i64 0] n) 3 (0, 0))) :
    Own w' base (.slice (some ⟨g, 0, none⟩) n n) (List.replicate n 0) := by
  refine ⟨by simp, .inr ⟨g, n, _, by simp, hb, hg, by simp, hm, by simp [size_madeCells], ?_⟩⟩
  rw [toList_madeCells_one]
  simp

/-- The second of two new blocks. -/
theorem heap_alloc_second (w : World) (o o' : Obj) : ((w.alloc o).alloc o').heap[w.heap.size + 1]? = some o' := by
  have := heap_alloc_new (w.alloc o) o'
  simpa using this

set_option maxHeartbeats 400000 in
theorem new_yes (n : Nat) (w : World) (h1 : 1 ≤ n) (h2 : n ≤ 400) : Calls Try.prog 22 #[.int .i64 n] w (NewPost w n) := by
  have hmk := fun W => run_make_row' (P := Try.prog) 25 3 (.int .i64 0) 8 Try.underlying25 Try.intInfo rfl .i64 .i64 n (by omega) (by omega) W
  have hd1 : decide ((n : Int) < 1) = false := by simp; omega
  have hd2 : decide ((400 : Int) < (n : Int)) = false := by simp; omega
  go_enter Try.func22, Try.ntmps22
  go_wp2
  exact bodyPost_ret (v := .tuple #[.agg #[.slice (some ⟨w.heap.size + 1, 0, none⟩) n n, .int .i64 1], .int .i64 0]) (by simp [results, Try.results22, go_sem]) rfl
    ⟨_, _, rfl, own_made (by omega) (by unfold maxLen; omega) (heap_alloc_second _ _ _), (by repeat (first | exact Below.refl _ _ | assumption | refine Below.drew ?_ | refine below_drewN ?_ _ | refine Below.allocs ?_ | refine Below.next ?_ (by assumption) | refine Below.setCell ?_ (by dsimp only; omega) _))⟩

set_option maxHeartbeats 400000 in
theorem new_no (n : Int) (w : World) (h : n < 1 ∨ 400 < n) :
    Calls Try.prog 22 #[.int .i64 n] w fun e w' => e = .returned (.tuple #[.agg #[.slice none 0 0, .int .i64 0], .int .i64 2]) ∧ Below w.heap.size w w' := by
  by_cases h1 : n < 1
  · go_enter Try.func22, Try.ntmps22
    go_wp2
    exact bodyPost_ret (v := .tuple #[.agg #[.slice none 0 0, .int .i64 0], .int .i64 2]) (by simp [results, Try.results22, go_sem]) rfl ⟨rfl, (by repeat (first | exact Below.refl _ _ | assumption | refine Below.drew ?_ | refine below_drewN ?_ _ | refine Below.allocs ?_ | refine Below.next ?_ (by assumption) | refine Below.setCell ?_ (by dsimp only; omega) _))⟩
  · have h2 : 400 < n := by omega
    clear h
    go_enter Try.func22, Try.ntmps22
    go_wp2
    exact bodyPost_ret (v := .tuple #[.agg #[.slice none 0 0, .int .i64 0], .int .i64 2]) (by simp [results, Try.results22, go_sem]) rfl ⟨rfl, (by repeat (first | exact Below.refl _ _ | assumption | refine Below.drew ?_ | refine below_drewN ?_ _ | refine Below.allocs ?_ | refine Below.next ?_ (by assumption) | refine Below.setCell ?_ (by dsimp only; omega) _))⟩
end Go.Proofs.Ytpdcaoagpjcgbab

/-
  The walk of heap.Copy. It proves no statement by itself.
-/
namespace Go.Proofs.Ytpdcaoagpjcgbab
open Go.RowKit

/-- A copy of a heap: new memory that reads the same. -/
def CopyPost (w : World) (xs : List Int) (n : Nat) (top : Int) (e : Ending) (w' : World) : Prop :=
  ∃ a cap, e = .returned (.agg #[.slice a n cap, .int .i64 top]) ∧ Own w' w.heap.size (.slice a n cap) xs ∧ Below w.heap.size w w'

theorem heap_alloc_third (w : World) (o o' o'' : Obj) : (((w.alloc o).alloc o').alloc o'').heap[w.heap.size + 2]? = some o'' := by
  have := heap_alloc_new ((w.alloc o).alloc o') o''
  simpa using this

/-- A copied row, as a list of numbers. -/
theorem own_spliced {w' : World} {base n g : Nat} {xs : List Int} (hxs : xs.length = n) (hb : base ≤ g) (hm : n ≤ maxLen)
    (hg : w'.heap[g]? = some (.cells (splice (madeCells #[.int .i64 0] n).toList 0 (xs.map (Value.int .i64))).toArray 3 (0, 0))) :
    Own w' base (.slice (some ⟨g, 0, none⟩) n n) xs := by
  have e : splice (madeCells #[Value.int .i64 0] n).toList 0 (xs.map (Value.int .i64)) = xs.map (Value.int .i64) := by
    unfold splice
    rw [toList_madeCells_one]
    simp
    omega
  rw [e] at hg
  exact ⟨by simp, .inr ⟨g, n, _, by rw [hxs], hb, hg, by omega, hm, by simp [hxs], by rw [Nat.mul_one]; exact List.take_of_length_le (by simp)⟩⟩

theorem cell_lt {w : World} {p : Addr} {v : Value} (h : w.cell? p = some v) : p.block < w.heap.size := by
  rcases Nat.lt_or_ge p.block w.heap.size with h' | h'
  · exact h'
  · have : w.heap[p.block]? = none := Array.getElem?_eq_none h'
    simp [World.cell?, this] at h

theorem add_none (b o i : Nat) : (⟨b, o, none⟩ : Addr).add i = ⟨b, o + i, none⟩ := by
  unfold Addr.add
  by_cases hi0 : i = 0 <;> simp [hi0]

/-- The cells of a slice, one behind the other, as copy and append ask for them. -/
theorem Ints.src {w : World} {a : Option Addr} {xs : List Int} (h : Ints w a xs) (h0 : 0 < (xs.map (Value.int .i64)).length) :
    ∃ ad, a = some ad ∧ ∀ j v, (xs.map (Value.int .i64))[j]? = some v → w.cell? (ad.add j) = some v := by
  rcases h with rfl | ⟨b, o, rfl, hlt, hc⟩
  · simp at h0
  · refine ⟨_, rfl, fun j v hj => ?_⟩
    have hjl : j < xs.length := by
      rcases Nat.lt_or_ge j xs.length with h' | h'
      · exact h'
      · rw [List.getElem?_eq_none (by simpa using h')] at hj; cases hj
    rw [add_none, hc j hjl]
    simp [List.getElem?_map, List.getElem?_eq_getElem hjl] at hj
    simp [List.getD_eq_getElem?_getD, List.getElem?_eq_getElem hjl, hj]

theorem ints_one (xs : List Int) : ∀ v ∈ xs.map (Value.int .i64), v.oneCell' = true := by
  intro v hv
  simp at hv
  obtain ⟨x, _, rfl⟩ := hv
  rfl

set_option maxHeartbeats 400000 in
theorem copy_any (a : Option Addr) (n cap : Nat) (xs : List Int) (top : Int) (w : World) (hi : Ints w a xs) (hn : xs.length = n) (hl : n * 8 ≤ 140737488355328) :
    Calls Try.prog 54 #[.agg #[.slice a n cap, .int .i64 top]] w (CopyPost w xs n top) := by
  have hmk := fun W => run_make_row' (P := Try.prog) 25 3 (.int .i64 0) 8 Try.underlying25 Try.intInfo rfl .i64 .i64 n (by omega) (by omega) W
  obtain ⟨cs, hcs⟩ : ∃ cs, cs = xs.map (Value.int .i64) := ⟨_, rfl⟩
  have hcl : cs.length = n := by rw [hcs]; simpa using hn
  have h1 : ∀ v ∈ cs, v.oneCell' = true := by rw [hcs]; exact ints_one xs
  have hsrc : ∀ w', Below w.heap.size w w' → 0 < cs.length → ∃ ad, a = some ad ∧ ∀ j v, cs[j]? = some v → w'.cell? (ad.add j) = some v := by
    rw [hcs]; exact fun w' hb h0 => (hi.below hb).src h0
  have HS := Lib.hide hsrc
  have H1 := Lib.hide h1
  have HL := Lib.hide hcl
  have HC := Lib.hide hcs
  have HN := Lib.hide hn
  clear hsrc h1 hcl hcs hi hn
  go_enter Try.func54, Try.ntmps54
  go_wp2_with (with_reducible refine wpList_copy_splice rfl (.tmp 8) (.tmp 10) 25 25 rfl 3 Try.underlying25 (by kernel_rfl) _ _ _ _ _ _ rfl rfl (w.heap.size + 2) 0 (madeCells #[.int .i64 0] n).toList 3 ?hg cs ?hn ?hp ?hf H1.out (w.heap.size + 2) _ (Below.refl _ _) (Nat.le_refl _) ?_)
  case hg => exact heap_alloc_third _ _ _ _
  case hn => rw [HL.out]; exact (Nat.min_self n).symm
  case hp => exact fun h0 => HS.out _ (by repeat (first | exact Below.refl _ _ | assumption | refine Below.drew ?_ | refine below_drewN ?_ _ | refine Below.allocs ?_ | refine Below.next ?_ (by assumption) | refine Below.setCell ?_ (by dsimp only; omega) _)) h0
  case hf => rw [toList_madeCells_one, HL.out]; simp
  intro w' HG hB
  rw [HC.out] at HG
  have d1 : w'.cell? ⟨w.heap.size, 1, none⟩ = some (.int .i64 top) := by rw [hB.cell (p := ⟨w.heap.size, 1, none⟩) (by simp)]; go_simp
  have r0 : w'.cell? ⟨w.heap.size + 1, 0, none⟩ = some (.slice none 0 0) := by rw [hB.cell (p := ⟨w.heap.size + 1, 0, none⟩) (by simp)]; go_simp
  have r1 : w'.cell? ⟨w.heap.size + 1, 1, none⟩ = some (.int .i64 0) := by rw [hB.cell (p := ⟨w.heap.size + 1, 1, none⟩) (by simp)]; go_simp
  have f0 : w'.frozen? ⟨w.heap.size + 1, 0, none⟩ = false := by rw [hB.frozen (p := ⟨w.heap.size + 1, 0, none⟩) (by simp)]; go_simp
  have f1 : w'.frozen? ⟨w.heap.size + 1, 1, none⟩ = false := by rw [hB.frozen (p := ⟨w.heap.size + 1, 1, none⟩) (by simp)]; go_simp
  have hbel : Below w.heap.size w w' := (Below.trans (b := ((w.alloc _).alloc _).alloc _) (by repeat (first | exact Below.refl _ _ | assumption | refine Below.drew ?_ | refine below_drewN ?_ _ | refine Below.allocs ?_ | refine Below.next ?_ (by assumption) | refine Below.setCell ?_ (by dsimp only; omega) _)) (hB.mono (by omega)))
  clear hB hmk HS
  go_wp2
  exact bodyPost_ret (v := .agg #[.slice (some ⟨w.heap.size + 1 + 1, 0, none⟩) n n, .int .i64 top]) (by simp [results, Try.results54, go_sem, r0, r1]) rfl
    ⟨_, _, rfl, own_spliced HN.out (by omega) (by unfold maxLen; omega) ((Below.heap_setCell _ _ _ _ (by simp)).trans ((Below.heap_setCell _ _ _ _ (by simp)).trans HG.out)), (hbel.setCell (by simp) _).setCell (by simp) _⟩

theorem ownsRow_base {w : World} {base base' : Nat} {e : TypeId} {size : Nat} {v : Value} {n : Nat} {xs : List Value} (h : w.ownsRow base e size v n xs) (hb : base' ≤ base) : w.ownsRow base' e size v n xs := by
  refine ⟨h.1, ?_⟩
  rcases h.2 with h2 | ⟨g, cap, cur, hv, hg, r⟩
  · exact .inl h2
  · exact .inr ⟨g, cap, cur, hv, by omega, r⟩

end Go.Proofs.Ytpdcaoagpjcgbab

/-
  Plain mathematics of heaps of words: which lists of words are heaps, and where their objects lie. No program is named here. It proves no statement by itself.
-/
namespace Go.Proofs.Ytpdcaoagpjcgbab.Lw

/-- May an object lie at p: its head and its fields lie below top. -/
def Fit (xs : List Int) (top p : Nat) : Prop := p + 2 ≤ top ∧ 0 ≤ xs.getD (p + 1) 0 ∧ xs.getD (p + 1) 0 ≤ 6 ∧ p + 2 + (xs.getD (p + 1) 0).toNat ≤ top
instance (xs : List Int) (top p : Nat) : Decidable (Fit xs top p) := by unfold Fit; infer_instance

/-- The place behind the object at p. -/
def nextOf (xs : List Int) (p : Nat) : Nat := p + 2 + (xs.getD (p + 1) 0).toNat

/-- The addresses of the objects from p on up to top; none: the words are not whole objects. -/
def objsFrom (xs : List Int) (top : Nat) : Nat → Nat → Option (List Nat)
  | 0, p => if p < top then none else some []
  | f + 1, p => if p < top then (if Fit xs top p then (objsFrom xs top f (nextOf xs p)).map (p :: ·) else none) else some []

theorem objsFrom_fuel (xs : List Int) (top : Nat) : ∀ (f g p : Nat), top ≤ f + p → top ≤ g + p → objsFrom xs top f p = objsFrom xs top g p := by
  intro f
  induction f with
  | zero =>
    intro g p hf hg
    cases g with
    | zero => rfl
    | succ g => simp only [objsFrom]; rw [if_neg (by omega), if_neg (by omega)]
  | succ f ih =>
    intro g p hf hg
    cases g with
    | zero => simp only [objsFrom]; rw [if_neg (by omega), if_neg (by omega)]
    | succ g =>
      simp only [objsFrom]
      by_cases h : p < top
      · rw [if_pos h, if_pos h]
        split
        · rw [ih g _ (by unfold nextOf; omega) (by unfold nextOf; omega)]
        · rfl
      · rw [if_neg h, if_neg h]

/-- The addresses of the objects from p on. -/
def objs (xs : List Int) (top p : Nat) : Option (List Nat) := objsFrom xs top top p

theorem objs_end {xs : List Int} {top p : Nat} (h : top ≤ p) : objs xs top p = some [] := by
  unfold objs
  cases top with
  | zero => simp [objsFrom]
  | succ t => simp only [objsFrom]; rw [if_neg (by omega)]

theorem objs_step {xs : List Int} {top p : Nat} (h : p < top) (hf : Fit xs top p) : objs xs top p = (objs xs top (nextOf xs p)).map (p :: ·) := by
  unfold objs
  cases top with
  | zero => omega
  | succ t =>
    have e : objsFrom xs (t + 1) (t + 1) p = (objsFrom xs (t + 1) t (nextOf xs p)).map (p :: ·) := by
      simp only [objsFrom]
      rw [if_pos h, if_pos hf]
    rw [e, objsFrom_fuel xs (t + 1) t (t + 1) _ (by unfold nextOf; omega) (by omega)]

theorem objs_none {xs : List Int} {top p : Nat} (h : p < top) (hf : ¬ Fit xs top p) : objs xs top p = none := by
  unfold objs
  cases top with
  | zero => omega
  | succ t =>
    simp only [objsFrom]
    rw [if_pos h, if_neg hf]

/-- All objects of a list lie in bounds, one behind the other. -/
theorem objs_spec {xs : List Int} {top : Nat} : ∀ (k p : Nat) (l : List Nat), top ≤ p + k → objs xs top p = some l →
    (∀ q ∈ l, p ≤ q ∧ q < top ∧ Fit xs top q) ∧ l.Pairwise (· < ·) := by
  intro k
  induction k with
  | zero =>
    intro p l hk h
    rw [objs_end (by omega)] at h
    injection h with h
    subst h
    simp
  | succ k ih =>
    intro p l hk h
    by_cases hp : p < top
    · by_cases hf : Fit xs top p
      · rw [objs_step hp hf] at h
        obtain ⟨l', h', rfl⟩ := Option.map_eq_some_iff.1 h
        obtain ⟨h1, h2⟩ := ih (nextOf xs p) l' (by unfold nextOf; omega) h'
        refine ⟨fun q hq => ?_, List.pairwise_cons.2 ⟨fun q hq => ?_, h2⟩⟩
        · rcases List.mem_cons.1 hq with rfl | hq
          · exact ⟨Nat.le_refl _, hp, hf⟩
          · have := h1 q hq
            unfold nextOf at this
            exact ⟨by omega, this.2⟩
        · have := h1 q hq
          unfold nextOf at this
          omega
      · rw [objs_none hp hf] at h; cases h
    · rw [objs_end (by omega)] at h
      injection h with h
      subst h
      simp

/-- A state that may be. -/
def StOk (xs : List Int) (p : Nat) : Prop := 0 ≤ xs.getD p 0 ∧ xs.getD p 0 ≤ 2147483648

/-- A field's word that may be. -/
def FieldOk (l : List Nat) (w : Int) : Prop := (w % 2 = 1 → w = 1 ∨ ∃ p ∈ l, (p : Int) = w / 2) ∧ (w % 2 = 0 → -2199023255552 ≤ w ∧ w ≤ 2199023255552)

/-- The objects of a heap are these. -/
def Objects (xs : List Int) (top : Nat) (l : List Nat) : Prop := objs xs top 1 = some l ∧ ∀ p ∈ l, StOk xs p

def FieldsOk (xs : List Int) (l : List Nat) : Prop := ∀ p ∈ l, ∀ k : Nat, (k : Int) < xs.getD (p + 1) 0 → FieldOk l (xs.getD (p + 2 + k) 0)
def RestZero (xs : List Int) (top : Nat) : Prop := ∀ k, top ≤ k → k < xs.length → xs.getD k 0 = 0

/-- A heap that Check takes, with its objects. -/
structure Valid (xs : List Int) (top : Int) (l : List Nat) : Prop where
  len1 : 1 ≤ xs.length
  len2 : xs.length ≤ 400
  top1 : 1 ≤ top
  top2 : top ≤ xs.length
  objects : Objects xs top.toNat l
  fields : FieldsOk xs l
  rest : RestZero xs top.toNat

theorem Valid.unique {xs : List Int} {top : Int} {l l' : List Nat} (h : Valid xs top l) (h' : Valid xs top l') : l = l' := by
  have := h.objects.1.symm.trans h'.objects.1
  injection this
end Go.Proofs.Ytpdcaoagpjcgbab.Lw

/-
  The walks of heap.Word and heap.Of. It proves no statement by itself.
-/
namespace Go.Proofs.Ytpdcaoagpjcgbab
open Go.RowKit

theorem and_one (n : Int) : bits .and .i64 n 1 = n % 2 := by
  show IntKind.i64.wrap ((BitVec.ofInt 64 n &&& BitVec.ofInt 64 1).toNat : Int) = _
  have h1 : BitVec.ofInt 64 1 = 1#64 := by decide
  rw [h1, BitVec.toNat_and]
  have h2 : (1#64).toNat = 1 := by decide
  rw [h2, Nat.and_one_is_mod, BitVec.toNat_ofInt, IntKind.wrap_i64]
  omega

/-- A reference's word is odd. -/
theorem isReference_any (n : Int) (w : World) :
    Calls Try.prog 60 #[.int .i64 n] w fun e w' => e = .returned (.bool (n % 2 == 1)) ∧ w = w' := by
  have ha := and_one n
  go_enter Try.func60, Try.ntmps60
  go_wp2
  go_ret
  exact ⟨rfl, rfl⟩

set_option maxHeartbeats 400000 in
theorem of_any (n : Int) (w : World) (hn : Fits n) :
    Calls Try.prog 26 #[.int .i64 n] w fun e w' => e = .returned (.agg #[.int .i64 (n % 2), .int .i64 (n / 2)]) ∧ Below w.heap.size w w' := by
  obtain ⟨hn1, hn2⟩ := hn
  rcases Int.emod_two_eq n with h | h
  · have hb : (n % 2 == 1) = false := by simp [h]
    rw [h]
    have H := Lib.hide h
    clear h
    go_enter Try.func26, Try.ntmps26
    go_wp2_with (go_at_call 60; refine (isReference_any _ _).mono ?_; rintro e w' ⟨rfl, rfl⟩)
    exact bodyPost_ret (v := .agg #[.int .i64 0, .int .i64 (n / 2)]) (by simp [results, Try.results26, go_sem]) rfl ⟨rfl, (Below.refl _ _).alloc (Nat.le_refl _) _⟩
  · have hb : (n % 2 == 1) = true := by simp [h]
    rw [h]
    have H := Lib.hide h
    clear h
    go_enter Try.func26, Try.ntmps26
    go_wp2_with (go_at_call 60; refine (isReference_any _ _).mono ?_; rintro e w' ⟨rfl, rfl⟩)
    exact bodyPost_ret (v := .agg #[.int .i64 1, .int .i64 (n / 2)]) (by simp [results, Try.results26, go_sem]) rfl ⟨rfl, (Below.refl _ _).alloc (Nat.le_refl _) _⟩

/-- The word for a value of kind 0 (a number) or another kind. -/
def wordOf (k n : Int) : Int := if k = 0 then 2 * n else 2 * n + 1

set_option maxHeartbeats 400000 in
theorem word_any (k n : Int) (w : World) (h1 : -2305843009213693952 ≤ n) (h2 : n ≤ 2305843009213693952) :
    Calls Try.prog 55 #[.agg #[.int .i64 k, .int .i64 n]] w fun e w' => e = .returned (.int .i64 (wordOf k n)) ∧ Below w.heap.size w w' := by
  by_cases h3 : k = 0
  · subst h3
    go_enter Try.func55, Try.ntmps55
    go_wp2
    go_ret
    exact ⟨rfl, (Below.refl _ _).alloc (Nat.le_refl _) _⟩
  · have h4 : (k == 0) = false := by simpa using h3
    have hw : wordOf k n = 2 * n + 1 := by simp [wordOf, h3]
    rw [hw]
    clear hw h3
    go_enter Try.func55, Try.ntmps55
    go_wp2
    go_ret
    exact ⟨rfl, (Below.refl _ _).alloc (Nat.le_refl _) _⟩

theorem wordOf_back (k m : Int) (hk : k = 0 ∨ k = 1) : wordOf k m % 2 = k ∧ wordOf k m / 2 = m := by
  unfold wordOf
  rcases hk with rfl | rfl
  · simp only [if_true]; omega
  · rw [if_neg (by omega)]; omega

theorem wordOf_fits (k m : Int) (h1 : -2305843009213693952 ≤ m) (h2 : m ≤ 2305843009213693952) : Fits (wordOf k m) := by
  unfold wordOf Fits
  split <;> omega

theorem ofword_any (k m : Int) (w : World) (hk : k = 0 ∨ k = 1) (h1 : -2305843009213693952 ≤ m) (h2 : m ≤ 2305843009213693952) :
    Calls Try.prog 26 #[.int .i64 (wordOf k m)] w fun e w' => e = .returned (.agg #[.int .i64 k, .int .i64 m]) ∧ Below w.heap.size w w' := by
  refine (of_any _ w (wordOf_fits k m h1 h2)).mono ?_
  rintro e w' ⟨rfl, hb⟩
  rw [(wordOf_back k m hk).1, (wordOf_back k m hk).2]
  exact ⟨rfl, hb⟩

end Go.Proofs.Ytpdcaoagpjcgbab

