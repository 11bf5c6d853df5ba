/-
  The walks of the closure in gc.mark and of gc.mark: all reachable objects are marked, and no others. It proves no statement by itself.
-/
import Derived.Test.YtpdcaoagpjcgbabGcModel
set_option linter.unusedVariables false
set_option linter.unusedSimpArgs false
namespace Go.Proofs.Ytpdcaoagpjcgbab
open Go.RowKit

/-- What mark keeps in memory of its own, from block B on: the map of the marked, the variable that holds it, the variable that holds the open ones. -/
structure MarkSt (w : World) (B n : Nat) (m : Int → Bool) (st : List Int) : Prop where
  cm : w.heap[B + 1]? = some (.cells #[.map (some B)] 95 (0, 0))
  map : MapB w B n m
  cs : ∃ v, w.heap[B + 2]? = some (.cells #[v] 25 (0, 0)) ∧ Own w (B + 3) v st

theorem MarkSt.next {w w' : World} {B n : Nat} {m : Int → Bool} {st : List Int} (h : MarkSt w B n m st) (hb : Below w.heap.size w w') : MarkSt w' B n m st := by
  obtain ⟨h1, h2, v, h3, h4⟩ := h
  exact ⟨(hb.block _ (lt_of_block h1)).trans h1, h2.kept (hb.block _ h2.lt), v, (hb.block _ (lt_of_block h3)).trans h3, h4.below hb⟩

set_option maxHeartbeats 400000 in
theorem visit_zero (B n : Nat) (m : Int → Bool) (st : List Int) (w : World) (h : MarkSt w B n m st) :
    Calls Try.prog 80 #[.int .i64 0, .pointer (some ⟨B + 1, 0, none⟩), .pointer (some ⟨B + 2, 0, none⟩)] w fun e w' => e = .returned (.tuple #[]) ∧ w = w' := by
  clear h
  go_enter Try.func80, Try.ntmps80
  go_wp2
  go_end0
  exact ⟨rfl, rfl⟩

set_option maxHeartbeats 400000 in
theorem visit_old (p : Int) (B n : Nat) (m : Int → Bool) (st : List Int) (w : World) (h : MarkSt w B n m st) (hp : Fits p) (hp0 : p ≠ 0) (hm : m p = true) :
    Calls Try.prog 80 #[.int .i64 p, .pointer (some ⟨B + 1, 0, none⟩), .pointer (some ⟨B + 2, 0, none⟩)] w fun e w' => e = .returned (.tuple #[]) ∧ w = w' := by
  have c1 := cell_of_one h.cm
  have hl := h.map.look hp true hm
  have hd : (p != 0) = true := by simpa using hp0
  clear h hp hp0 hm
  go_enter Try.func80, Try.ntmps80
  go_wp2
  go_end0
  exact ⟨rfl, rfl⟩

/-- The list in a variable of its own, behind an append and the store. -/
theorem open_push {w w1 w2 : World} {B n : Nat} {m' : Int → Bool} {st : List Int} {v v' : Value} {p : Int} {o : Obj} (h1 : w.heap[B + 1]? = some (.cells #[.map (some B)] 95 (0, 0))) (hmap1 : MapB w1 B n m') (hg1 : w.grownBy w1 (some B))
    (h2 : w.heap[B + 2]? = some (.cells #[v] 25 (0, 0))) (hown : Own w (B + 3) v st)
    (hown' : w2.ownsRow (B + 3) 3 1 v' (st.length + 1) (st.map (Value.int .i64) ++ [.int .i64 p])) (hg2 : (w1.alloc o).grownBy w2 v.ownBlock) :
    (w2.heap[B + 2]? = some (.cells #[v] 25 (0, 0))) ∧ MarkSt (w2.setCell ⟨B + 2, 0, none⟩ v') B n m' (st ++ [p]) ∧ Below B w (w2.setCell ⟨B + 2, 0, none⟩ v') := by
  have hlt1 := lt_of_block h1
  have hlt2 := lt_of_block h2
  have hs1 := hg1.size
  have hvB : ∀ k, v.ownBlock = some k → B + 3 ≤ k := fun k hk => (World.ownsRow.lt hown k hk).1
  have hv'B : ∀ k, v'.ownBlock = some k → B + 3 ≤ k := fun k hk => (World.ownsRow.lt hown' k hk).1
  have blk : ∀ k, k < w.heap.size → k ≠ B → k < B + 3 → w2.heap[k]? = w.heap[k]? := fun k hk hne hlt => by
    rw [hg2.block k (by simp; omega) (fun e => by have := hvB k e.symm; omega), Below.heap_alloc _ _ _ (by omega)]
    exact hg1.block k hk (fun e => hne (Option.some.inj e))
  have hb2 := (blk (B + 2) hlt2 (by omega) (by omega)).trans h2
  have hb1 := (blk (B + 1) hlt1 (by omega) (by omega)).trans h1
  have hbm : MapB w2 B n m' := by
    refine hmap1.kept ?_
    rw [hg2.block B (by simp; omega) (fun e => by have := hvB B e.symm; omega), Below.heap_alloc _ _ _ (by omega)]
  refine ⟨hb2, ⟨?_, ?_, v', one_setCell hb2, ?_⟩, ?_⟩
  · exact (Below.heap_setCell _ _ _ _ (by simp)).trans hb1
  · exact hbm.kept (Below.heap_setCell _ _ _ _ (by simp))
  · unfold Own
    rw [List.map_append, List.length_append]
    exact ownsRow_setCell_other hown' (fun e => by have := hv'B _ e; simp at this) _
  · refine Below.setCell ?_ (by simp) _
    have b1 : Below B w w1 := (Below.refl B w).grown hg1 (by omega) (fun k hk => by cases hk; exact Nat.le_refl _)
    exact (b1.alloc (by omega) o).grown hg2 (by simp; omega) (fun k hk => by have := hvB k hk; omega)

set_option maxHeartbeats 800000 in
theorem visit_new (p : Int) (B n : Nat) (m : Int → Bool) (st : List Int) (w : World) (h : MarkSt w B n m st) (hp : Fits p) (hp0 : p ≠ 0) (hm : m p = false) (hn : n ≤ 1000) (hs : st.length ≤ 1000) :
    Calls Try.prog 80 #[.int .i64 p, .pointer (some ⟨B + 1, 0, none⟩), .pointer (some ⟨B + 2, 0, none⟩)] w fun e w' => e = .returned (.tuple #[]) ∧ MarkSt w' B (n + 1) (setAt m p true) (st ++ [p]) ∧ Below B w w' := by
  obtain ⟨i0, hi0, hz0, hz1, hz2⟩ := info_parts Try.intInfo
  obtain ⟨h1, h2, v, h3, h4⟩ := h
  have c1 := cell_of_one h1
  have hl := h2.look hp false hm
  have hd : (p != 0) = true := by simpa using hp0
  obtain ⟨w1, hrun, hmap1, hg1⟩ := h2.put (by unfold maxLen; omega) hp true
  have hc3 : w1.heap[B + 2]? = some (.cells #[v] 25 (0, 0)) := (hg1.block _ (lt_of_block h3) (fun e => by have := Option.some.inj e; omega)).trans h3
  have c3 := cell_of_one hc3
  have hvB : Hid (Own w1 (B + 3) v st) := World.ownsRow.kept h4 hg1 (.inr (fun e => by have := (World.ownsRow.lt h4 _ e).1; omega))
  have H1 := Lib.hide h1
  have H2 := Lib.hide hmap1
  have HG1 := Lib.hide hg1
  have H3 := Lib.hide h3
  have H4 := Lib.hide h4
  have HB := Lib.hide (lt_of_block hc3)
  clear h1 h2 h3 h4 hp hp0 hm hmap1 hg1 hc3
  go_enter Try.func80, Try.ntmps80
  go_wp2_with (at_builtin; refine wpList_append_own _ rfl (.tmp 14) (.tmp 16) 25 rfl (B + 3) 3 i0 (.int .i64 0) 1 8 Try.underlying25 hi0 hz0 hz1 hz2 rfl (by decide) v st.length _ rfl (World.ownsRow.alloc hvB.out _) ⟨w1.heap.size, 0, none⟩ 1 1 [.int .i64 p] rfl rfl (cell_one_new _ _ _) ?c2 ?c3 ?c4 ?c5 ?_)
  case c2 => intro u hu; simp at hu; subst hu; rfl
  case c3 => unfold maxLen; omega
  case c4 => omega
  case c5 => have := HB.out; simp; omega
  intro v' w2 hown' hg2 _
  have hO : Own w2 (B + 3) v' (st ++ [p]) := by
    unfold Own
    rw [List.map_append, List.length_append]
    exact hown'
  obtain ⟨a', c', hv', _⟩ := hO.ints
  rw [show (st ++ [p]).length = st.length + 1 by simp] at hv'
  subst hv'
  clear hO
  obtain ⟨hb2, hst, hbel⟩ := open_push H1.out H2.out HG1.out H3.out H4.out hown' hg2
  have d2 := cell_of_one hb2
  have f2 := free_of_one hb2
  have HST := Lib.hide hst
  have HBEL := Lib.hide hbel
  clear hown' hg2 hb2 hst hbel hrun hl c1 c3
  go_wp2
  go_end0
  exact ⟨rfl, HST.out, HBEL.out⟩
end Go.Proofs.Ytpdcaoagpjcgbab
