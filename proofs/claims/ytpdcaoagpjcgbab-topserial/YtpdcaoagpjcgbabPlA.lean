/-
  The walks of limewashtop.cleaning, of slices.IndexFunc and slices.DeleteFunc over acts, and of limewashtop.plain. It proves no statement by itself.
-/
import Derived.Test.YtpdcaoagpjcgbabTopRun
import Derived.Test.YtpdcaoagpjcgbabGcC
import Derived.Lib.SliceRun
set_option linter.unusedVariables false
set_option linter.unusedSimpArgs false
namespace Go.Proofs.Ytpdcaoagpjcgbab
open Go.RowKit Stm

/-- An act of a collection, or one that tells of it. -/
def isCl (x : Stm.Act) : Bool := x.kind == 10 || (x.kind == 11 || x.kind == 12)
/-- The acts that are not. -/
def plainOf (l : List Stm.Act) : List Stm.Act := l.filter fun x => !isCl x
def actV (x : Stm.Act) : Value := .agg #[.int .i64 x.kind, .int .i64 x.t, .int .i64 x.a, .int .i64 x.b, .int .i64 x.n]

set_option maxHeartbeats 400000 in
theorem cleaning_any (x : Stm.Act) (w : World) : Calls Try.prog 45 #[actV x] w fun e w' => e = .returned (.bool (isCl x)) ∧ Below w.heap.size w w' := by
  obtain ⟨x0, x1, x2, x3, x4⟩ := x
  unfold actV isCl
  dsimp only
  by_cases h1 : x0 = 10
  · subst h1
    go_enter Try.func45, Try.ntmps45
    go_wp2
    go_ret
    exact ⟨rfl, (by repeat (first | exact Below.refl _ _ | assumption | refine Below.drew ?_ | refine below_drewN ?_ _ | refine Below.allocs ?_ | refine Below.next ?_ (by assumption) | refine Below.setCell ?_ (by dsimp only; omega) _))⟩
  · have e1 : (x0 == 10) = false := by simpa using h1
    rw [e1]
    clear h1
    by_cases h2 : x0 = 11
    · subst h2
      go_enter Try.func45, Try.ntmps45
      go_wp2
      go_ret
      exact ⟨rfl, (by repeat (first | exact Below.refl _ _ | assumption | refine Below.drew ?_ | refine below_drewN ?_ _ | refine Below.allocs ?_ | refine Below.next ?_ (by assumption) | refine Below.setCell ?_ (by dsimp only; omega) _))⟩
    · have e2 : (x0 == 11) = false := by simpa using h2
      rw [e2]
      clear h2
      by_cases h3 : x0 = 12
      · subst h3
        go_enter Try.func45, Try.ntmps45
        go_wp2
        go_ret
        exact ⟨rfl, (by repeat (first | exact Below.refl _ _ | assumption | refine Below.drew ?_ | refine below_drewN ?_ _ | refine Below.allocs ?_ | refine Below.next ?_ (by assumption) | refine Below.setCell ?_ (by dsimp only; omega) _))⟩
      · have e3 : (x0 == 12) = false := by simpa using h3
        rw [e3]
        clear h3
        go_enter Try.func45, Try.ntmps45
        go_wp2
        go_ret
        exact ⟨rfl, (by repeat (first | exact Below.refl _ _ | assumption | refine Below.drew ?_ | refine below_drewN ?_ _ | refine Below.allocs ?_ | refine Below.next ?_ (by assumption) | refine Below.setCell ?_ (by dsimp only; omega) _))⟩

/-! ### Lists of acts -/
theorem ActsAt.cells {w : World} {a : Option Addr} {l : List Stm.Act} (h : ActsAt w a l) {i : Nat} {x : Stm.Act} (hx : l[i]? = some x) : ∃ b o, a = some ⟨b, o, none⟩ ∧ w.cell? ⟨b, o + i * 5, none⟩ = some (.int .i64 x.kind) ∧ w.cell? ⟨b, o + i * 5 + 1, none⟩ = some (.int .i64 x.t) ∧ w.cell? ⟨b, o + i * 5 + 2, none⟩ = some (.int .i64 x.a) ∧ w.cell? ⟨b, o + i * 5 + 3, none⟩ = some (.int .i64 x.b) ∧ w.cell? ⟨b, o + i * 5 + 4, none⟩ = some (.int .i64 x.n) := by
  rcases h with h | ⟨b, o, e, _, hc⟩
  · subst h; simp at hx
  · exact ⟨b, o, e, hc i x hx⟩

set_option maxHeartbeats 1600000 in
theorem indexFuncC_none (a : Option Addr) (n cap : Nat) (l : List Stm.Act) (w : World) (hi : ActsAt w a l) (hz : l.length = n) (hn : n ≤ 1000) (hall : ∀ (i : Nat) (x : Stm.Act), l[i]? = some x → isCl x = false) :
    Calls Try.prog 74 #[.slice a n cap, .func (.func 45) #[] #[]] w fun e w' => e = .returned (.int .i64 (-1)) ∧ Below w.heap.size w w' := by
  have HI := Lib.hide hi
  have HZ := Lib.hide hz
  have HA := Lib.hide hall
  clear hi hz hall
  go_enter Try.func74, Try.ntmps74
  go_wp2
  go_loopw [8] (fun u wr => ∃ i : Nat, i ≤ n ∧ u = .int .i64 i ∧ Below w.heap.size w wr) (fun u _ => n - (intOf u).toNat)
  case atStart => exact ⟨0, Nat.zero_le _, rfl, Below.refl _ _⟩
  case round =>
    obtain ⟨i, hin, rfl, hbel⟩ := hrel
    have HBE := Lib.hide hbel
    clear hbel
    by_cases hlt : i < n
    · obtain ⟨x, hx⟩ : ∃ x, l[i]? = some x := ⟨l[i]'(by rw [HZ.out]; exact hlt), List.getElem?_eq_getElem _⟩
      obtain ⟨b, o, rfl, e0, e1, e2, e3, e4⟩ := (HI.out.below HBE.out).cells hx
      have C := Lib.hide (cleaning_any x wr)
      have HC := Lib.hide (HA.out i x hx)
      clear hx
      unfold actV at C
      obtain ⟨x0, x1, x2, x3, x4⟩ := x
      dsimp only at C e0 e1 e2 e3 e4
      go_wp2_with (go_at_call 45; refine C.out.mono ?_; rintro e w' ⟨rfl, hb⟩; rw [HC.out]; have HB := Lib.hide (Below.step HBE.out (Below.mono hb HBE.out.size)); clear hb HBE e0 e1 e2 e3 e4)
      go_roundw
      case rel => exact ⟨i + 1, by omega, by go_num, HB.out⟩
      case measure => simp [intOf]; omega
    · go_wp2
      go_ret
      exact ⟨rfl, HBE.out⟩

set_option maxHeartbeats 1600000 in
theorem indexFuncC_some (a : Option Addr) (n cap : Nat) (l : List Stm.Act) (w : World) (j : Nat) (hi : ActsAt w a l) (hz : l.length = n) (hn : n ≤ 1000) (hj : j < n) (hall : ∀ (i : Nat) (x : Stm.Act), i < j → l[i]? = some x → isCl x = false) (hnot : ∀ x, l[j]? = some x → isCl x = true) :
    Calls Try.prog 74 #[.slice a n cap, .func (.func 45) #[] #[]] w fun e w' => e = .returned (.int .i64 j) ∧ Below w.heap.size w w' := by
  have HI := Lib.hide hi
  have HZ := Lib.hide hz
  have HA := Lib.hide hall
  have HN := Lib.hide hnot
  clear hi hz hall hnot
  go_enter Try.func74, Try.ntmps74
  go_wp2
  go_loopw [8] (fun u wr => ∃ i : Nat, i ≤ j ∧ u = .int .i64 i ∧ Below w.heap.size w wr) (fun u _ => n - (intOf u).toNat)
  case atStart => exact ⟨0, Nat.zero_le _, rfl, Below.refl _ _⟩
  case round =>
    obtain ⟨i, hin, rfl, hbel⟩ := hrel
    have HBE := Lib.hide hbel
    clear hbel
    obtain ⟨x, hx⟩ : ∃ x, l[i]? = some x := ⟨l[i]'(by rw [HZ.out]; omega), List.getElem?_eq_getElem _⟩
    obtain ⟨b, o, rfl, e0, e1, e2, e3, e4⟩ := (HI.out.below HBE.out).cells hx
    have C := Lib.hide (cleaning_any x wr)
    by_cases hlt : i < j
    · have HC := Lib.hide (HA.out i x hlt hx)
      clear hx
      unfold actV at C
      obtain ⟨x0, x1, x2, x3, x4⟩ := x
      dsimp only at C e0 e1 e2 e3 e4
      go_wp2_with (go_at_call 45; refine C.out.mono ?_; rintro e w' ⟨rfl, hb⟩; rw [HC.out]; have HB := Lib.hide (Below.step HBE.out (Below.mono hb HBE.out.size)); clear hb HBE e0 e1 e2 e3 e4)
      go_roundw
      case rel => exact ⟨i + 1, by omega, by go_num, HB.out⟩
      case measure => simp [intOf]; omega
    · obtain rfl : i = j := by omega
      have HC := Lib.hide (HN.out x hx)
      clear hx HN
      unfold actV at C
      obtain ⟨x0, x1, x2, x3, x4⟩ := x
      dsimp only at C e0 e1 e2 e3 e4
      go_wp2_with (go_at_call 45; refine C.out.mono ?_; rintro e w' ⟨rfl, hb⟩; rw [HC.out]; have HB := Lib.hide (Below.step HBE.out (Below.mono hb HBE.out.size)); clear hb HBE e0 e1 e2 e3 e4)
      go_ret
      exact ⟨rfl, HB.out⟩

theorem ccells_set : ∀ (l : List Stm.Act) (x : Nat) (a : Stm.Act), x < l.length → ccells (l.set x a) = (((((ccells l).set (x * 5) (.int .i64 a.kind)).set (x * 5 + 1) (.int .i64 a.t)).set (x * 5 + 2) (.int .i64 a.a)).set (x * 5 + 3) (.int .i64 a.b)).set (x * 5 + 4) (.int .i64 a.n)
  | [], x, a, h => absurd h (Nat.not_lt_zero _)
  | b :: l, 0, a, _ => by
    have e1 : ccells (b :: l) = actCells b ++ ccells l := rfl
    have e2 : ccells ((b :: l).set 0 a) = actCells a ++ ccells l := rfl
    rw [e1, e2]
    simp [actCells]
  | b :: l, x + 1, a, h => by
    have ih := ccells_set l x a (by simpa using h)
    have e1 : ccells (b :: l) = actCells b ++ ccells l := rfl
    have e2 : ccells ((b :: l).set (x + 1) a) = actCells b ++ ccells (l.set x a) := rfl
    have hl : (actCells b).length = 5 := rfl
    rw [e1, e2, ih]
    have hs : ∀ (ys : List Value) (j : Nat) (v : Value), (actCells b ++ ys).set ((x + 1) * 5 + j) v = actCells b ++ ys.set (x * 5 + j) v := fun ys j v => by
      rw [List.set_append_right _ _ (by rw [hl]; omega), hl]
      congr 2
      omega
    have h0 : (actCells b ++ ccells l).set ((x + 1) * 5) (.int .i64 a.kind) = actCells b ++ (ccells l).set (x * 5) (.int .i64 a.kind) := hs (ccells l) 0 (.int .i64 a.kind)
    rw [h0, hs, hs, hs, hs]
/-- A act stored at its place. -/
theorem OwnC.stored {w : World} {base n c g : Nat} {l : List Stm.Act} (h : OwnC w base (.slice (some ⟨g, 0, none⟩) n c) l) (hl : l.length = n) {x : Nat} (hx : x < n) (a : Stm.Act) :
    OwnC (((((w.setCell ⟨g, x * 5, none⟩ (.int .i64 a.kind)).setCell ⟨g, x * 5 + 1, none⟩ (.int .i64 a.t)).setCell ⟨g, x * 5 + 2, none⟩ (.int .i64 a.a)).setCell ⟨g, x * 5 + 3, none⟩ (.int .i64 a.b)).setCell ⟨g, x * 5 + 4, none⟩ (.int .i64 a.n)) base (.slice (some ⟨g, 0, none⟩) n c) (l.set x a) := by
  subst hl
  have h1 := (World.ownsRow.stored h (x * 5) (.int .i64 a.kind)).1
  have h2 := (World.ownsRow.stored h1 (x * 5 + 1) (.int .i64 a.t)).1
  have h3 := (World.ownsRow.stored h2 (x * 5 + 2) (.int .i64 a.a)).1
  have h4 := (World.ownsRow.stored h3 (x * 5 + 3) (.int .i64 a.b)).1
  have h5 := (World.ownsRow.stored h4 (x * 5 + 4) (.int .i64 a.n)).1
  unfold OwnC
  rw [ccells_set l x a hx, List.length_set]
  exact h5
theorem ownsRow_storedAll {base n c g size : Nat} {e : TypeId} : ∀ (vs : List Value) (o : Nat) (w : World) (xs : List Value), w.ownsRow base e size (.slice (some ⟨g, 0, none⟩) n c) n xs →
    ∃ ys, (w.setCells g o vs).ownsRow base e size (.slice (some ⟨g, 0, none⟩) n c) n ys ∧ ys.take o = xs.take o
  | [], _, _, xs, h => ⟨xs, h, rfl⟩
  | v :: vs, o, w, xs, h => by
    obtain ⟨ys, h1, h3⟩ := ownsRow_storedAll vs (o + 1) _ _ (World.ownsRow.stored h o v).1
    refine ⟨ys, h1, ?_⟩
    have := congrArg (List.take o) h3
    rw [List.take_take, List.take_take, Nat.min_eq_left (by omega)] at this
    rw [this, List.take_set_of_le (Nat.le_refl _)]
theorem ownsRow_firsts {w : World} {base n c g size : Nat} {e : TypeId} {xs : List Value} (h : w.ownsRow base e size (.slice (some ⟨g, 0, none⟩) n c) n xs) (i : Nat) (hi : i ≤ n) : w.ownsRow base e size (.slice (some ⟨g, 0, none⟩) i c) i (xs.take (i * size)) := by
  have hm : i * size ≤ n * size := Nat.mul_le_mul_right _ hi
  refine ⟨by rw [List.length_take, h.1]; omega, ?_⟩
  rcases h.2 with ⟨h2, _⟩ | ⟨g', cap, cur, hv, hg, hh, r1, r2, r3, r4⟩
  · cases h2
  · simp only [Value.slice.injEq] at hv
    obtain ⟨hv1, hv2, hv3⟩ := hv
    subst hv3
    injection hv1 with hv1
    injection hv1 with hv1
    subst hv1
    refine .inr ⟨g, c, cur, rfl, hg, hh, by omega, r2, r3, ?_⟩
    have := congrArg (List.take (i * size)) r4
    rw [List.take_take, Nat.min_eq_left hm] at this
    rw [this]
theorem ccells_take (l : List Stm.Act) (i : Nat) : (ccells l).take (i * 5) = ccells (l.take i) := by
  induction l generalizing i with
  | nil => simp [ccells]
  | cons a l ih =>
    cases i with
    | zero => simp [ccells]
    | succ i =>
      have e1 : ccells (a :: l) = actCells a ++ ccells l := rfl
      have e2 : ccells ((a :: l).take (i + 1)) = actCells a ++ ccells (l.take i) := rfl
      have hl : (actCells a).length = 5 := rfl
      rw [e1, e2, ← ih i, List.take_append, hl, List.take_of_length_le (by rw [hl]; omega)]
      congr 2
      omega

set_option maxRecDepth 100000 in
theorem Try.zeroAct (w : World) : (zeroValue 71).run Try.prog w = .ok (.agg #[.int .i64 0, .int .i64 0, .int .i64 0, .int .i64 0, .int .i64 0]) w := by rfl

theorem run_clear_acts (w : World) (ty : TypeId) (b o n c : Nat) (hn : 0 < n) (hc : ∀ j, j < n * 5 → (w.cell? ⟨b, o + j, none⟩).isSome = true) (hf : ∀ j, j < n * 5 → w.frozen? ⟨b, o + j, none⟩ = false) :
    ∃ zs : List Value, (Builtin.clear_ #[61] ty #[.slice (some ⟨b, o, none⟩) n c]).run Try.prog w = .ok (.tuple #[]) (w.setCells b o zs) := by
  have hsz : (Builtin.zeroCells (Value.cells (.agg #[.int .i64 0, .int .i64 0, .int .i64 0, .int .i64 0, .int .i64 0])) n).toList.length = n * 5 := by
    simp [Builtin.zeroCells, Value.cells]
  have h1 : ∀ v ∈ (Builtin.zeroCells (Value.cells (.agg #[.int .i64 0, .int .i64 0, .int .i64 0, .int .i64 0, .int .i64 0])) n).toList, v.oneCell' = true := by
    intro v hv
    obtain ⟨i, hi, rfl⟩ := List.mem_iff_getElem.1 hv
    simp [Builtin.zeroCells, Value.cells]
    have : i % 5 < 5 := Nat.mod_lt _ (by omega)
    match h : i % 5 with
    | 0 => rfl
    | 1 => rfl
    | 2 => rfl
    | 3 => rfl
    | 4 => rfl
    | k + 5 => omega
  have hst := run_storeCells_cells (P := Try.prog) b o (Builtin.zeroCells (Value.cells (.agg #[.int .i64 0, .int .i64 0, .int .i64 0, .int .i64 0, .int .i64 0])) n).toList 0 w (by rw [hsz]; simpa using hc) (by rw [hsz]; simpa using hf) h1
  simp only [Nat.add_zero] at hst
  obtain ⟨m, rfl⟩ : ∃ m, n = m + 1 := ⟨n - 1, by omega⟩
  refine ⟨(Builtin.zeroCells (Value.cells (.agg #[.int .i64 0, .int .i64 0, .int .i64 0, .int .i64 0, .int .i64 0])) (m + 1)).toList, ?_⟩
  simp [Builtin.clear_, run_underlying Try.underlying61, Try.zeroAct, hst]
end Go.Proofs.Ytpdcaoagpjcgbab

/-
  The walks of slices.DeleteFunc over acts, and of limewashtop.plain. It proves no statement by itself.
-/
namespace Go.Proofs.Ytpdcaoagpjcgbab
open Go.RowKit Stm

theorem plainOf_take_succ {l : List Stm.Act} {j : Nat} {x : Stm.Act} (hj : l[j]? = some x) : plainOf (l.take (j + 1)) = plainOf (l.take j) ++ (if isCl x then [] else [x]) := by
  have hlt : j < l.length := by
    rcases Nat.lt_or_ge j l.length with h | h
    · exact h
    · rw [List.getElem?_eq_none h] at hj; cases hj
  unfold plainOf
  rw [List.take_succ_eq_append_getElem hlt, List.filter_append]
  rw [List.getElem?_eq_getElem hlt] at hj
  injection hj with hj
  rw [hj]
  cases h : isCl x <;> simp [List.filter_cons, h]

/-- What DeleteFunc hands back. -/
def DelC (w : World) (base : Nat) (l : List Stm.Act) (e : Ending) (w' : World) : Prop :=
  ∃ a' c', e = .returned (.slice a' (plainOf l).length c') ∧ OwnC w' base (.slice a' (plainOf l).length c') (plainOf l) ∧ Below base w w'

theorem exists_firstC (l : List Stm.Act) : (∀ (i : Nat) (x : Stm.Act), l[i]? = some x → isCl x = false) ∨ ∃ j, j < l.length ∧ (∀ (i : Nat) (x : Stm.Act), i < j → l[i]? = some x → isCl x = false) ∧ ∀ x, l[j]? = some x → isCl x = true := by
  rcases exists_first (p := fun i => match l[i]? with | some x => !isCl x | none => true) l.length with h | ⟨j, h1, h2, h3⟩
  · refine .inl fun i x hx => ?_
    have hlt : i < l.length := by
      rcases Nat.lt_or_ge i l.length with h | h
      · exact h
      · rw [List.getElem?_eq_none h] at hx; cases hx
    have := h i hlt
    rw [hx] at this
    simpa using this
  · refine .inr ⟨j, h1, fun i x hi hx => ?_, fun x hx => ?_⟩
    · have := h2 i hi
      rw [hx] at this
      simpa using this
    · rw [hx] at h3
      simpa using h3

set_option maxHeartbeats 3200000 in
set_option maxRecDepth 100000 in
theorem deleteC_any (a : Option Addr) (n cap : Nat) (l : List Stm.Act) (base : Nat) (w : World) (ho : OwnC w base (.slice a n cap) l) (hn : n ≤ 1000) (hbase : base ≤ w.heap.size) :
    Calls Try.prog 44 #[.slice a n cap, .func (.func 45) #[] #[]] w (DelC w base l) := by
  obtain ⟨hz, hat⟩ := ho.reads
  rcases exists_firstC l with hall | ⟨j, hj, hall, hnot⟩
  · have hfil : plainOf l = l := by
      unfold plainOf
      rw [List.filter_eq_self]
      intro x hx
      obtain ⟨i, hi, rfl⟩ := List.mem_iff_getElem.1 hx
      rw [hall i _ (List.getElem?_eq_getElem hi)]
      rfl
    have HP := Lib.hide (show ∀ w', Below w.heap.size w w' → DelC w base l (.returned (.slice a n cap)) w' from fun w' hb => ⟨a, cap, by rw [hfil, hz], by rw [hfil, hz]; exact ho.below hb, Below.mono hb hbase⟩)
    have C := Lib.hide (indexFuncC_none a n cap l w hat hz hn hall)
    clear hfil ho hall hz hat
    go_enter Try.func44, Try.ntmps44
    go_wp2_with (go_at_call 74; refine C.out.mono ?_; rintro e w' ⟨rfl, hb⟩; have HB := Lib.hide hb; clear hb)
    go_ret
    exact HP.out _ HB.out
  · have C := Lib.hide (indexFuncC_some a n cap l w j hat hz hn (by omega) hall hnot)
    obtain ⟨g, cap', cur, e, hg1, hg2, hg3, hg4, _⟩ := ho.2.resolve_left (fun h => by omega)
    injection e with ea en ec
    subst ea ec
    have hc1 : n ≤ cap := by omega
    have hc2 : cap ≤ 9223372036854775807 := by unfold maxLen at hg4; omega
    have hstart : plainOf (l.take (j + 1)) = l.take j := by
      rw [plainOf_take_succ (List.getElem?_eq_getElem hj), if_pos (hnot _ (List.getElem?_eq_getElem hj)), List.append_nil]
      unfold plainOf
      rw [List.filter_eq_self]
      intro x hx
      obtain ⟨i, hi, rfl⟩ := List.mem_iff_getElem.1 hx
      have hij : i < j := by simp at hi; omega
      rw [hall i _ hij (by rw [List.getElem_take]; exact List.getElem?_eq_getElem (by omega))]
      rfl
    have HST := Lib.hide hstart
    have HO := Lib.hide ho
    have HZ := Lib.hide hz
    have hjn : j < n := by omega
    clear ho hall hnot hz hstart hg2 hg3 hg4 en hat hj
    have hd1 : ((j : Int) == -1) = false := by simp
    go_enter Try.func44, Try.ntmps44
    go_wp2_with (go_at_call 74; refine C.out.mono ?_; rintro e w' ⟨rfl, hb⟩; have HB := Lib.hide hb; clear hb)
    clear C
    rename_i w1
    go_loopg [5, 6] (n - (j + 1)) (fun q u v wr => ∃ (x y : Nat) (ys : List Stm.Act), x < y ∧ y ≤ n ∧ q = n - y ∧ u = .int .i64 x ∧ v = .int .i64 y ∧ ys.length = n ∧ OwnC wr base (.slice (some ⟨g, 0, none⟩) n cap) ys ∧ ys.take x = plainOf (l.take y) ∧ (∀ k, y ≤ k → k < n → ys[k]? = l[k]?) ∧ Below base w wr)
    case atStart => exact ⟨j, j + 1, l, by omega, by omega, rfl, rfl, by go_num, HZ.out, HO.out.below HB.out, HST.out.symm, fun _ _ _ => rfl, Below.mono HB.out hbase⟩
    case round =>
      obtain ⟨x, y, ys, hxy, hyn, rfl, rfl, rfl, hyl, hown, htake, hrest, hbel⟩ := hrel
      have hgf := fun j => World.ownsRow.frozenAt (hyl ▸ hown) j
      have HGF := Lib.hide hgf
      have HOW := Lib.hide hown
      have HTA := Lib.hide htake
      have HRE := Lib.hide hrest
      have HBE := Lib.hide hbel
      have HYL := Lib.hide hyl
      have hgs : g < wr.heap.size := (World.ownsRow.lt hown g rfl).2
      clear hown htake hrest hbel hyl hgf
      by_cases hlt : y < n
      · obtain ⟨z, hz⟩ : ∃ z, l[y]? = some z := ⟨l[y]'(by rw [HZ.out]; exact hlt), List.getElem?_eq_getElem _⟩
        have hz' := HRE.out y (Nat.le_refl _) hlt
        rw [hz] at hz'
        obtain ⟨b, o, eb, e0, e1, e2, e3, e4⟩ := HOW.out.reads.2.cells hz'
        injection eb with eb
        injection eb with eb1 eb2
        subst eb1 eb2
        rw [Nat.zero_add] at e0 e1 e2 e3 e4
        have HTS := Lib.hide (plainOf_take_succ hz)
        have C := Lib.hide (cleaning_any z)
        clear hz hz'
        unfold actV at C
        obtain ⟨z0, z1, z2, z3, z4⟩ := z
        dsimp only at C e0 e1 e2 e3 e4
        go_wp2_with fail
        refine (C.out _).mono ?_
        rintro e w4 ⟨rfl, hb4⟩
        have hn4 := fun (j : Nat) (u : Value) (hu : (actCells ⟨z0, z1, z2, z3, z4⟩)[j]? = some u) => (hb4.cell (p := ⟨wr.heap.size, j, none⟩) (by simp)).trans ((BoxL.new wr (actCells ⟨z0, z1, z2, z3, z4⟩) 71).cell j u hu)
        have hB4 : Below wr.heap.size wr w4 := Below.step (show Below wr.heap.size wr (wr.alloc (.cells #[.int .i64 z0, .int .i64 z1, .int .i64 z2, .int .i64 z3, .int .i64 z4] 71)) from (by repeat (first | exact Below.refl _ _ | assumption | refine Below.drew ?_ | refine below_drewN ?_ _ | refine Below.allocs ?_ | refine Below.next ?_ (by assumption) | refine Below.setCell ?_ (by dsimp only; omega) _))) (Below.mono hb4 (by simp))
        have m0 := hn4 0 _ rfl
        have m1 := hn4 1 _ rfl
        have m2 := hn4 2 _ rfl
        have m3 := hn4 3 _ rfl
        have m4 := hn4 4 _ rfl
        have HO4 := Lib.hide (HOW.out.below hB4)
        have HB4 := Lib.hide (Below.step HBE.out (Below.mono hB4 (Nat.le_trans hbase (by have := HBE.out.size; omega))))
        have f4 := fun j => World.ownsRow.frozenAt (HYL.out ▸ HO4.out) j
        have f0 := f4 (x * 5)
        have f1 := f4 (x * 5 + 1)
        have f2 := f4 (x * 5 + 2)
        have f3 := f4 (x * 5 + 3)
        have f5 := f4 (x * 5 + 4)
        have hxl : x < ys.length := by rw [HYL.out]; omega
        obtain ⟨q, hq⟩ : ∃ q, ys[x]? = some q := ⟨ys[x], List.getElem?_eq_getElem _⟩
        obtain ⟨b', o', eb', g0, g1, g2, g3, g4⟩ := HO4.out.reads.2.cells hq
        injection eb' with eb'
        injection eb' with eb1 eb2
        subst eb1 eb2
        rw [Nat.zero_add] at g0 g1 g2 g3 g4
        clear hn4 hb4 hB4 f4 hq hxl HOW HBE e0 e1 e2 e3 e4 HGF C
        cases hcl : isCl ⟨z0, z1, z2, z3, z4⟩ with
        | false =>
          have HCL := Lib.hide hcl
          clear hcl
          go_wp2
          go_roundg (n - (y + 1))
          case measure => omega
          case rel =>
            refine ⟨x + 1, y + 1, ys.set x ⟨z0, z1, z2, z3, z4⟩, by omega, by omega, rfl, by go_num, by go_num, by rw [List.length_set]; exact HYL.out, HO4.out.stored HYL.out (by omega) ⟨z0, z1, z2, z3, z4⟩, ?_, fun q hq1 hq2 => ?_, ?_⟩
            · rw [HTS.out, HCL.out, ← HTA.out, List.take_succ_eq_append_getElem (by rw [List.length_set, HYL.out]; omega), List.take_set_of_le (Nat.le_refl _)]
              simp
            · rw [List.getElem?_set_ne (by omega)]
              exact HRE.out q (by omega) hq2
            · exact ((((HB4.out.setCell hg1 _).setCell hg1 _).setCell hg1 _).setCell hg1 _).setCell hg1 _
        | true =>
          have HCL := Lib.hide hcl
          clear hcl
          go_wp2
          go_roundg (n - (y + 1))
          case measure => omega
          case rel =>
            refine ⟨x, y + 1, ys, by omega, by omega, rfl, rfl, by go_num, HYL.out, HO4.out, ?_, fun q hq1 hq2 => HRE.out q (by omega) hq2, HB4.out⟩
            rw [HTS.out, HCL.out, HTA.out]
            simp
      · obtain rfl : y = n := by omega
        have hrow : wr.ownsRow base 71 5 (.slice (some ⟨g, 0, none⟩) y cap) y (ccells ys) := by
          have h := HOW.out
          unfold OwnC at h
          rw [HYL.out] at h
          exact h
        obtain ⟨zs, hcl0⟩ : ∃ zs, ∀ ty, (Builtin.clear_ #[61] ty #[.slice (some ⟨g, x * 5, none⟩) (y - x) (cap - x)]).run Try.prog wr = .ok (.tuple #[]) (wr.setCells g (x * 5) zs) := by
          obtain ⟨zs, h⟩ := run_clear_acts wr 0 g (x * 5) (y - x) (cap - x) (by omega) (fun i hi => by
            rw [World.ownsRow.cellAt hrow (x * 5 + i) (by omega), List.getElem?_eq_getElem (by rw [ccells_length, HYL.out]; omega)]
            rfl) (fun i hi => HGF.out (x * 5 + i))
          exact ⟨zs, fun ty => h⟩
        have hcx : ¬ cap = x := by omega
        obtain ⟨cs, hown', htk'⟩ := ownsRow_storedAll zs (x * 5) wr (ccells ys) hrow
        have hfin : plainOf l = ys.take x := by
          rw [HTA.out, List.take_of_length_le (by rw [HZ.out]; exact Nat.le_refl _)]
        have hlx : (plainOf l).length = x := by
          rw [hfin, List.length_take, HYL.out]; omega
        have hown2 := ownsRow_firsts hown' x (by omega)
        rw [htk', ccells_take, ← hfin] at hown2
        have HOW2 := Lib.hide hown2
        have HLX := Lib.hide hlx
        have HCL := Lib.hide (Below.setCells hg1 zs (x * 5) wr HBE.out)
        clear HGF HTA HRE HOW hrow hown' htk' hfin hlx hown2
        go_wp2
        go_ret
        refine ⟨some ⟨g, 0, none⟩, cap, ?_, ?_, HCL.out⟩
        · rw [HLX.out]; rfl
        · unfold OwnC
          rw [HLX.out]; exact HOW2.out
end Go.Proofs.Ytpdcaoagpjcgbab

/-
  The walks of limewashtop.plain. It proves no statement by itself.
-/
namespace Go.Proofs.Ytpdcaoagpjcgbab
open Go.RowKit Stm

/-- What plain hands back. -/
def PlainPost (w : World) (l : List Stm.Act) (e : Ending) (w' : World) : Prop :=
  ∃ a' c', e = .returned (.slice a' (plainOf l).length c') ∧ OwnC w' w.heap.size (.slice a' (plainOf l).length c') (plainOf l) ∧ Below w.heap.size w w'

set_option maxHeartbeats 1600000 in
theorem plain_any (a0 : Option Addr) (n0 cap0 : Nat) (R : Nat → Nat → Int) (most th : Nat) (w : World) (hR : Recs w a0 n0 4 R) (h1 : most ≤ 100) (h2 : 1 ≤ th) (h3 : th ≤ 4) :
    Calls Try.prog 40 #[.slice a0 n0 cap0, .int .i64 most, .int .i64 th] w (PlainPost w (actsTo th R (min n0 most))) := by
  have C := Lib.hide (acts_any a0 n0 cap0 R most th w hR (by omega) (by omega) (by omega))
  have hk : min n0 most ≤ 100 := by omega
  generalize min n0 most = kk at C hk ⊢
  clear hR
  go_enter Try.func40, Try.ntmps40
  go_wp2_with (go_at_call 38; refine C.out.mono ?_; rintro e w1 ⟨a1, c1, rfl, ho, hb⟩; have HO := Lib.hide ho; have HB := Lib.hide hb; clear ho hb)
  refine (deleteC_any a1 kk c1 _ w.heap.size w1 HO.out (by omega) HB.out.size).mono ?_
  rintro e w2 ⟨a2, c2, rfl, ho2, hb2⟩
  have HF := Lib.hide (show PlainPost w (actsTo th R kk) (.returned (.slice a2 (plainOf (actsTo th R kk)).length c2)) w2 from ⟨a2, c2, rfl, ho2, Below.step HB.out hb2⟩)
  generalize (plainOf (actsTo th R kk)).length = pl at HF ⊢
  clear ho2 hb2
  go_wp2
  go_ret
  exact HF.out
end Go.Proofs.Ytpdcaoagpjcgbab

/-
  Appending acts that lie somewhere in memory. It proves no statement by itself.
-/
namespace Go.Proofs.Ytpdcaoagpjcgbab
open Go.RowKit Stm

theorem ActsAt.news {w : World} {b o : Nat} {l : List Stm.Act} (h : ActsAt w (some ⟨b, o, none⟩) l) : ∀ j u, (ccells l)[j]? = some u → w.cell? ((⟨b, o, none⟩ : Addr).add j) = some u := fun j u hu => by
  have hj : j < l.length * 5 := by
    rcases Nat.lt_or_ge j (l.length * 5) with h' | h'
    · exact h'
    · rw [List.getElem?_eq_none (by rw [ccells_length]; exact h')] at hu; cases hu
  have hd : j / 5 < l.length := by omega
  have hx : l[j / 5]? = some l[j / 5] := List.getElem?_eq_getElem hd
  obtain ⟨b', o', eb, c0, c1, c2, c3, c4⟩ := h.cells hx
  injection eb with eb
  injection eb with eb1 eb2
  subst eb1 eb2
  have hat := fun v (hv : (actCells l[j / 5])[j % 5]? = some v) => ccells_at l (j / 5) _ hx (j % 5) v hv
  have ej : j / 5 * 5 + j % 5 = j := by omega
  rw [ej] at hat
  have hm : j % 5 < 5 := Nat.mod_lt _ (by omega)
  have hv : ∃ v, (actCells l[j / 5])[j % 5]? = some v := ⟨(actCells l[j / 5])[j % 5]'hm, List.getElem?_eq_getElem _⟩
  obtain ⟨v, hv⟩ := hv
  have := hat v hv
  rw [hu] at this
  injection this with this
  subst this
  have ea : (⟨b, o, none⟩ : Addr).add j = ⟨b, o + j, none⟩ := by
    unfold Addr.add
    by_cases h0 : j = 0 <;> simp [h0]
  rw [ea]
  have e5 : o + j = o + j / 5 * 5 + j % 5 := by omega
  rw [e5]
  match hmm : j % 5 with
  | 0 => rw [hmm] at hv; simp [actCells] at hv; rw [← hv]; exact c0
  | 1 => rw [hmm] at hv; simp [actCells] at hv; rw [← hv]; exact c1
  | 2 => rw [hmm] at hv; simp [actCells] at hv; rw [← hv]; exact c2
  | 3 => rw [hmm] at hv; simp [actCells] at hv; rw [← hv]; exact c3
  | 4 => rw [hmm] at hv; simp [actCells] at hv; rw [← hv]; exact c4
  | k + 5 => omega

/-- Appending acts that lie somewhere. -/
theorem wpList_append_from {ops : Array Oper} {rest : List Oper} {o : Oper} {a : Go.Act} {Q : Exit → Go.Act → World → Prop} (w : World) (hgd : o.guard = none) (s x : Operand)
    (ho : o.op = .call { callee := .builtin .append, args := #[s, x], argTypes := #[61, 61] }) (base : Nat) (v : Value) (b f k c : Nat) (l m : List Stm.Act)
    (hs : a.eval s = v) (hx : a.eval x = .slice (some ⟨b, f, none⟩) k c) (hk : m.length = k) (hl : OwnC w base v l) (hm : ActsAt w (some ⟨b, f, none⟩) m) (hn : l.length + k ≤ 1000) (hb : base ≤ w.heap.size)
    (h : ∀ v' w', OwnC w' base v' (l ++ m) → Below base w w' → wpList Try.prog ops Q rest (a.put o.dst v') w') : wpList Try.prog ops Q (o :: rest) a w := by
  obtain ⟨iA, hiA, hA0, hA1, hA2⟩ := info_parts Try.actInfo
  subst hk
  refine wpList_append_at w hgd s x 61 ho base 71 iA _ 5 40 Try.underlying61 hiA hA0 hA1 hA2 rfl (by decide) v l.length (ccells l) hs hl ⟨b, f, none⟩ m.length c (ccells m) hx (ccells_length m) hm.news ?_ ?_ ?_ hb ?_
  · intro u hu
    obtain ⟨y, _, hy⟩ := List.mem_flatMap.1 hu
    simp [actCells] at hy
    rcases hy with rfl | rfl | rfl | rfl | rfl <;> rfl
  · unfold maxLen; omega
  · omega
  · intro v' w' h2 hg2 _ _
    refine h v' w' (by unfold OwnC; rw [ccells_append, List.length_append]; exact h2) ⟨hg2.os, hg2.tape, hg2.output, hg2.size, fun k hk => hg2.block k (by omega) (fun e => ?_)⟩
    have := (World.ownsRow.lt hl k e.symm).1
    omega

end Go.Proofs.Ytpdcaoagpjcgbab

