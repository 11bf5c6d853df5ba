/-
  The walks of heap.Copy and the reference's HeapCopy. It proves no statement by itself.
-/
import Derived.Test.YtgfnfedgpjenoaaNewWalks
import Derived.Laws.CopyOwn
import Derived.Deep.RegionLaw
namespace Go.Proofs.Ytgfnfedgpjenoaa
open Go.RowKit

/-- A copy of a heap: new memory that reads the same. -/
def CopyPost (w : World) (xs : List Int) (n : Nat) (top : Int) (e : Ending) (w' : World) : Prop :=
  ∃ a cap, e = .returned (.agg #[.slice a n cap, .int .i64 top]) ∧ Own w' w.heap.size (.slice a n cap) xs ∧ Below w.heap.size w w'

theorem heap_alloc_third (w : World) (o o' o'' : Obj) : (((w.alloc o).alloc o').alloc o'').heap[w.heap.size + 2]? = some o'' := by
  have := heap_alloc_new ((w.alloc o).alloc o') o''
  simpa using this

/-- A copied row, as a list of numbers. -/
theorem own_spliced {w' : World} {base n g : Nat} {xs : List Int} (hxs : xs.length = n) (hb : base ≤ g) (hm : n ≤ maxLen)
    (hg : w'.heap[g]? = some (.cells (splice (madeCells #[.int .i64 0] n).toList 0 (xs.map (Value.int .i64))).toArray 3 (0, 0))) :
    Own w' base (.slice (some ⟨g, 0, none⟩) n n) xs := by
  have e : splice (madeCells #[Value.int .i64 0] n).toList 0 (xs.map (Value.int .i64)) = xs.map (Value.int .i64) := by
    unfold splice
    rw [toList_madeCells_one]
    simp
    omega
  rw [e] at hg
  exact ⟨by simp, .inr ⟨g, n, _, by rw [hxs], hb, hg, by omega, hm, by simp [hxs], by rw [Nat.mul_one]; exact List.take_of_length_le (by simp)⟩⟩

theorem cell_lt {w : World} {p : Addr} {v : Value} (h : w.cell? p = some v) : p.block < w.heap.size := by
  rcases Nat.lt_or_ge p.block w.heap.size with h' | h'
  · exact h'
  · have : w.heap[p.block]? = none := Array.getElem?_eq_none h'
    simp [World.cell?, this] at h

theorem add_none (b o i : Nat) : (⟨b, o, none⟩ : Addr).add i = ⟨b, o + i, none⟩ := by
  unfold Addr.add
  by_cases hi0 : i = 0 <;> simp [hi0]

/-- The cells of a slice, one behind the other, as copy and append ask for them. -/
theorem Ints.src {w : World} {a : Option Addr} {xs : List Int} (h : Ints w a xs) (h0 : 0 < (xs.map (Value.int .i64)).length) :
    ∃ ad, a = some ad ∧ ∀ j v, (xs.map (Value.int .i64))[j]? = some v → w.cell? (ad.add j) = some v := by
  rcases h with rfl | ⟨b, o, rfl, hlt, hc⟩
  · simp at h0
  · refine ⟨_, rfl, fun j v hj => ?_⟩
    have hjl : j < xs.length := by
      rcases Nat.lt_or_ge j xs.length with h' | h'
      · exact h'
      · rw [List.getElem?_eq_none (by simpa using h')] at hj; cases hj
    rw [add_none, hc j hjl]
    simp [List.getElem?_map, List.getElem?_eq_getElem hjl] at hj
    simp [List.getD_eq_getElem?_getD, List.getElem?_eq_getElem hjl, hj]

theorem ints_one (xs : List Int) : ∀ v ∈ xs.map (Value.int .i64), v.oneCell' = true := by
  intro v hv
  simp at hv
  obtain ⟨x, _, rfl⟩ := hv
  rfl

set_option maxHeartbeats 400000 in
theorem copy_any (a : Option Addr) (n cap : Nat) (xs : List Int) (top : Int) (w : World) (hi : Ints w a xs) (hn : xs.length = n) (hl : n * 8 ≤ 140737488355328) :
    Calls Try.prog 16 #[.agg #[.slice a n cap, .int .i64 top]] w (CopyPost w xs n top) := by
  have hmk := fun W => run_make_row' (P := Try.prog) 22 3 (.int .i64 0) 8 Try.underlying22 Try.intInfo rfl .i64 .i64 n (by omega) (by omega) W
  obtain ⟨cs, hcs⟩ : ∃ cs, cs = xs.map (Value.int .i64) := ⟨_, rfl⟩
  have hcl : cs.length = n := by rw [hcs]; simpa using hn
  have h1 : ∀ v ∈ cs, v.oneCell' = true := by rw [hcs]; exact ints_one xs
  have hsrc : ∀ w', Below w.heap.size w w' → 0 < cs.length → ∃ ad, a = some ad ∧ ∀ j v, cs[j]? = some v → w'.cell? (ad.add j) = some v := by
    rw [hcs]; exact fun w' hb h0 => (hi.below hb).src h0
  have HS := Lib.hide hsrc
  have H1 := Lib.hide h1
  have HL := Lib.hide hcl
  have HC := Lib.hide hcs
  have HN := Lib.hide hn
  clear hsrc h1 hcl hcs hi hn
  go_enter Try.func16, Try.ntmps16
  go_wp2_with (with_reducible refine wpList_copy_splice rfl (.tmp 8) (.tmp 10) 22 22 rfl 3 Try.underlying22 (by kernel_rfl) _ _ _ _ _ _ rfl rfl (w.heap.size + 2) 0 (madeCells #[.int .i64 0] n).toList 3 ?hg cs ?hn ?hp ?hf H1.out (w.heap.size + 2) _ (Below.refl _ _) (Nat.le_refl _) ?_)
  case hg => exact heap_alloc_third _ _ _ _
  case hn => rw [HL.out]; exact (Nat.min_self n).symm
  case hp => exact fun h0 => HS.out _ (by repeat (first | exact Below.refl _ _ | assumption | refine Below.drew ?_ | refine below_drewN ?_ _ | refine Below.allocs ?_ | refine Below.next ?_ (by assumption) | refine Below.setCell ?_ (by dsimp only; omega) _)) h0
  case hf => rw [toList_madeCells_one, HL.out]; simp
  intro w' HG hB
  rw [HC.out] at HG
  have d1 : w'.cell? ⟨w.heap.size, 1, none⟩ = some (.int .i64 top) := by rw [hB.cell (p := ⟨w.heap.size, 1, none⟩) (by simp)]; go_simp
  have r0 : w'.cell? ⟨w.heap.size + 1, 0, none⟩ = some (.slice none 0 0) := by rw [hB.cell (p := ⟨w.heap.size + 1, 0, none⟩) (by simp)]; go_simp
  have r1 : w'.cell? ⟨w.heap.size + 1, 1, none⟩ = some (.int .i64 0) := by rw [hB.cell (p := ⟨w.heap.size + 1, 1, none⟩) (by simp)]; go_simp
  have f0 : w'.frozen? ⟨w.heap.size + 1, 0, none⟩ = false := by rw [hB.frozen (p := ⟨w.heap.size + 1, 0, none⟩) (by simp)]; go_simp
  have f1 : w'.frozen? ⟨w.heap.size + 1, 1, none⟩ = false := by rw [hB.frozen (p := ⟨w.heap.size + 1, 1, none⟩) (by simp)]; go_simp
  have hbel : Below w.heap.size w w' := (Below.trans (b := ((w.alloc _).alloc _).alloc _) (by repeat (first | exact Below.refl _ _ | assumption | refine Below.drew ?_ | refine below_drewN ?_ _ | refine Below.allocs ?_ | refine Below.next ?_ (by assumption) | refine Below.setCell ?_ (by dsimp only; omega) _)) (hB.mono (by omega)))
  clear hB hmk HS
  go_wp2
  exact bodyPost_ret (v := .agg #[.slice (some ⟨w.heap.size + 1 + 1, 0, none⟩) n n, .int .i64 top]) (by simp [results, Try.results16, go_sem, r0, r1]) rfl
    ⟨_, _, rfl, own_spliced HN.out (by omega) (by unfold maxLen; omega) ((Below.heap_setCell _ _ _ _ (by simp)).trans ((Below.heap_setCell _ _ _ _ (by simp)).trans HG.out)), (hbel.setCell (by simp) _).setCell (by simp) _⟩

/-- append of a list onto nil, its source nil, empty or not: a new row, its value written out. -/
theorem run_append_copy {P : Program} (w : World) (t ty e : TypeId) (i : TypeInfo) (z : Value) (bytes : Nat) (ht : P.underlying t = some (.slice e)) (hi : P.info? e = some i) (hz : i.zero = some z)
    (hsize : i.size = 1) (hby : i.bytes = bytes) (hzs : z.cells.size = 1) (A : Option Addr) (m c : Nat) (news : List Value) (hl : news.length = m) (hnone : A = none → m = 0 ∧ c = 0)
    (hnews : 0 < m → ∃ ad, A = some ad ∧ ∀ j u, news[j]? = some u → w.cell? (ad.add j) = some u) (h1 : ∀ u ∈ news, u.oneCell' = true) (h63 : m ≤ maxLen) (hbytes : m * bytes ≤ 140737488355328) :
    ∃ a' c' w', (Builtin.append_ #[t, t] ty #[.slice none 0 0, .slice A m c]).run P w = .ok (.slice a' m c') w' ∧ w'.ownsRow w.heap.size e 1 (.slice a' m c') m news ∧ w.grownBy w' none := by
  rcases A with _ | ad
  · obtain ⟨rfl, rfl⟩ := hnone rfl
    obtain rfl : news = [] := List.eq_nil_of_length_eq_zero hl
    exact ⟨none, 0, w, run_append_owned_none w w.heap.size t ty e i 1 ht hi _ 0 [] (World.ownsRow_nil _ _ _ _), World.ownsRow_nil _ _ _ _, World.grownBy.refl _ _⟩
  · have hc : ∀ j u, news[j]? = some u → w.cell? (ad.add j) = some u := by
      intro j u hu
      rcases Nat.eq_zero_or_pos m with h0 | h0
      · subst h0
        obtain rfl : news = [] := List.eq_nil_of_length_eq_zero hl
        simp at hu
      · obtain ⟨ad', h, hc⟩ := hnews h0
        injection h with h
        subst h
        exact hc j u hu
    obtain ⟨v', w', hrun, hown, hg, _⟩ := run_append_own (P := P) w w.heap.size t ty e i z 1 bytes ht hi hz hsize hby hzs (by decide) (.slice none 0 0) 0 [] (World.ownsRow_nil _ _ _ _) ad m c news (by omega) hc h1 (by omega) (by rw [Nat.zero_add]; exact hbytes) (Nat.le_refl _)
    rw [Nat.zero_add, List.nil_append] at hown
    have hform : ∃ a' c', v' = .slice a' m c' := by
      rcases hown.2 with ⟨rfl, rfl⟩ | ⟨g, cap, cur, rfl, _⟩
      · exact ⟨_, _, rfl⟩
      · exact ⟨_, _, rfl⟩
    obtain ⟨a', c', rfl⟩ := hform
    exact ⟨a', c', w', hrun, hown, hg⟩

theorem step_append_copy {P : Program} {ops : Array Oper} {o : Oper} {a : Act} {w : World} {K : Act → World → Prop} {Q : Exit → Act → World → Prop} {E : Prop} (hgd : o.guard = none) (s x : Operand) (t : TypeId)
    (ho : o.op = .call { callee := .builtin .append, args := #[s, x], argTypes := #[t, t] }) (e : TypeId) (i : TypeInfo) (z : Value) (bytes : Nat) (ht : P.underlying t = some (.slice e)) (hi : P.info? e = some i) (hz : i.zero = some z)
    (hsize : i.size = 1) (hby : i.bytes = bytes) (hzs : z.cells.size = 1) (hs : a.eval s = .slice none 0 0) (A : Option Addr) (m c : Nat) (news : List Value) (hx : a.eval x = .slice A m c) (hl : news.length = m) (hnone : A = none → m = 0 ∧ c = 0)
    (hnews : 0 < m → ∃ ad, A = some ad ∧ ∀ j u, news[j]? = some u → w.cell? (ad.add j) = some u) (h1 : ∀ u ∈ news, u.oneCell' = true) (h63 : m ≤ maxLen) (hbytes : m * bytes ≤ 140737488355328)
    (h : ∀ a' c' w', w'.ownsRow w.heap.size e 1 (.slice a' m c') m news → w.grownBy w' none → K (a.put o.dst (.slice a' m c')) w') :
    if Region.wanted o (yielded ops a.tmps) = true then Oper.wp P o a w K Q else E := by
  have hw : Region.wanted o (yielded ops a.tmps) = true := by simp [Region.wanted, hgd]
  rw [if_pos hw]
  obtain ⟨a', c', w', hrun, h2, h3⟩ := run_append_copy (P := P) w t o.type e i z bytes ht hi hz hsize hby hzs A m c news hl hnone hnews h1 h63 hbytes
  unfold Oper.wp execOp
  simp only [ho, resolve, invoke, builtin, Sem.run_bind, Sem.run_pure, Result.andThen_ok, List.map_toArray, List.map_cons, List.map_nil, hs, hx, hrun]
  exact h a' c' w' h2 h3

/-- What a new row leaves of the two boxes laid just before it. -/
theorem two_boxes {w W w' : World} {B : Nat} {o o' : Obj} (hg : W.grownBy w' none) (hW : W.heap = ((w.alloc o).alloc o').heap) (hB : B = w.heap.size) :
    (∀ i, w'.cell? ⟨B, i, none⟩ = ((w.alloc o).alloc o').cell? ⟨B, i, none⟩) ∧ (∀ i, w'.cell? ⟨B + 1, i, none⟩ = ((w.alloc o).alloc o').cell? ⟨B + 1, i, none⟩) ∧ (∀ i, w'.frozen? ⟨B + 1, i, none⟩ = ((w.alloc o).alloc o').frozen? ⟨B + 1, i, none⟩) := by
  subst hB
  have hsz : W.heap.size = w.heap.size + 2 := by rw [hW]; simp
  have e : ∀ k, k < w.heap.size + 2 → w'.heap[k]? = ((w.alloc o).alloc o').heap[k]? := fun k hk => (hg.block k (by omega) (by simp)).trans (by rw [hW])
  exact ⟨fun i => World.cell?_of_block (e _ (by simp)), fun i => World.cell?_of_block (e _ (by simp)), fun i => World.frozen?_of_block (e _ (by simp))⟩

theorem ownsRow_base {w : World} {base base' : Nat} {e : TypeId} {size : Nat} {v : Value} {n : Nat} {xs : List Value} (h : w.ownsRow base e size v n xs) (hb : base' ≤ base) : w.ownsRow base' e size v n xs := by
  refine ⟨h.1, ?_⟩
  rcases h.2 with h2 | ⟨g, cap, cur, hv, hg, r⟩
  · exact .inl h2
  · exact .inr ⟨g, cap, cur, hv, by omega, r⟩

theorem copy_close {w W w' : World} {v : Value} {n : Nat} {cs : List Value} {xs : List Int} (hown : w'.ownsRow W.heap.size 3 1 v n cs) (hW : W.heap.size = w.heap.size + 2) (hcs : cs = xs.map (Value.int .i64)) (hn : xs.length = n) (x y : Value) :
    Own ((w'.setCell ⟨w.heap.size + 1, 0, none⟩ x).setCell ⟨w.heap.size + 1, 1, none⟩ y) w.heap.size v xs := by
  subst hcs
  subst hn
  exact ownsRow_base (ownsRow_setCell_below (ownsRow_setCell_below hown (by rw [hW]; simp) _) (by rw [hW]; simp) _) (by omega)

set_option maxHeartbeats 400000 in
theorem heapCopy_any (a : Option Addr) (n cap : Nat) (xs : List Int) (top : Int) (w : World) (hi : Ints w a xs) (hn : xs.length = n) (hl : n * 8 ≤ 140737488355328) (hnil : a = none → cap = 0) (hcap : n ≤ cap) :
    Calls Try.prog 22 #[.agg #[.slice a n cap, .int .i64 top]] w (CopyPost w xs n top) := by
  obtain ⟨i0, hi0, hz0, hz1, hz2⟩ := info_parts Try.intInfo
  obtain ⟨cs, hcs⟩ : ∃ cs, cs = xs.map (Value.int .i64) := ⟨_, rfl⟩
  have hcl : cs.length = n := by rw [hcs]; simpa using hn
  have h1 : ∀ v ∈ cs, v.oneCell' = true := by rw [hcs]; exact ints_one xs
  have hsrc : ∀ w', Below w.heap.size w w' → 0 < n → ∃ ad, a = some ad ∧ ∀ j v, cs[j]? = some v → w'.cell? (ad.add j) = some v := by
    rw [hcs]; exact fun w' hb h0 => (hi.below hb).src (by simpa [hn] using h0)
  have hno : a = none → n = 0 ∧ cap = 0 := fun h => ⟨by have := hnil h; omega, hnil h⟩
  have HS := Lib.hide hsrc
  have H1 := Lib.hide h1
  have HL := Lib.hide hcl
  have HC := Lib.hide hcs
  have HN := Lib.hide hn
  have HO := Lib.hide hno
  clear hsrc h1 hcl hcs hi hn hno hnil
  go_enter Try.func22, Try.ntmps22
  go_wp2
  go_region_law (refine step_append_copy rfl (.const (.slice none 0 0)) (.tmp 4) 22 rfl 3 i0 (.int .i64 0) 8 Try.underlying22 hi0 hz0 hz1 hz2 rfl (by simp [Act.eval, Act.put]) a n cap cs (by simp [Act.eval, Act.put]) HL.out HO.out (fun h0 => HS.out _ (by repeat (first | exact Below.refl _ _ | assumption | refine Below.drew ?_ | refine below_drewN ?_ _ | refine Below.allocs ?_ | refine Below.next ?_ (by assumption) | refine Below.setCell ?_ (by dsimp only; omega) _)) h0) H1.out (by unfold maxLen; omega) (by omega) ?_; intro a' c' w' hown hg; have HW := Lib.hide hown; have HG := Lib.hide hg; clear hown hg; obtain ⟨q0, q1, q2⟩ := two_boxes (w := w) (o := .cells #[.slice a n cap, .int .i64 top] 24) (o' := .cells #[.slice none 0 0, .int .i64 0] 24) HG.out rfl rfl)
  all_goals
    have hbel : Below w.heap.size w w' := Below.grown (w := (((w.alloc _).alloc _).drew)) (by repeat (first | exact Below.refl _ _ | assumption | refine Below.drew ?_ | refine below_drewN ?_ _ | refine Below.allocs ?_ | refine Below.next ?_ (by assumption) | refine Below.setCell ?_ (by dsimp only; omega) _)) HG.out (by simp; omega) (by simp)
    go_wp2
    exact bodyPost_ret (v := .agg #[.slice a' n c', .int .i64 top]) (by simp [results, Try.results22, go_sem, q1]) rfl
      ⟨_, _, rfl, copy_close HW.out (by simp) HC.out HN.out _ _, (hbel.setCell (by simp) _).setCell (by simp) _⟩
end Go.Proofs.Ytgfnfedgpjenoaa
