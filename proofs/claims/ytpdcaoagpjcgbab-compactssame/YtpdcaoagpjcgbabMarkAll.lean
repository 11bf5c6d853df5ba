/-
  The walk of gc.mark: all reachable objects are marked, and no others. It proves no statement by itself.
-/
import Derived.Test.YtpdcaoagpjcgbabMarkWalks
set_option linter.unusedVariables false
set_option linter.unusedSimpArgs false
namespace Go.Proofs.Ytpdcaoagpjcgbab
open Go.RowKit

/-- What holds between two steps of mark. -/
def MarkRel (w0 : World) (B : Nat) (xs rs : List Int) (l : List Nat) (cur : Int) (w : World) (m : Int → Bool) (st : List Int) : Prop :=
  ∃ n, MarkSt w B n m st ∧ n + unmarked (nums l) m ≤ l.length ∧ st.length + unmarked (nums l) m ≤ l.length ∧ Below B w0 w ∧ B ≤ w.heap.size ∧ Search xs rs l cur m st

theorem MarkRel.next {w0 w w' : World} {B : Nat} {xs rs : List Int} {l : List Nat} {cur : Int} {m : Int → Bool} {st : List Int} (h : MarkRel w0 B xs rs l cur w m st) (hb : Below w.heap.size w w') : MarkRel w0 B xs rs l cur w' m st := by
  obtain ⟨n, h1, h2, h3, h4, h5, h6⟩ := h
  exact ⟨n, h1.next hb, h2, h3, h4.trans (hb.mono h5), Nat.le_trans h5 hb.size, h6⟩

/-- What a visit leaves. -/
def VisitPost (w0 : World) (B : Nat) (xs rs : List Int) (l : List Nat) (cur : Int) (m : Int → Bool) (st : List Int) (q : Int) (e : Ending) (w' : World) : Prop :=
  ∃ (m' : Int → Bool) (st' : List Int), e = .returned (.tuple #[]) ∧ MarkRel w0 B xs rs l cur w' m' st' ∧ (q ≠ 0 → m' q = true) ∧ (∀ x, m x = true → m' x = true) ∧ 2 * unmarked (nums l) m' + st'.length ≤ 2 * unmarked (nums l) m + st.length

theorem visit_any (w0 : World) (B : Nat) (xs rs : List Int) (l : List Nat) (cur : Int) (m : Int → Bool) (st : List Int) (q : Int) (w : World) (h : MarkRel w0 B xs rs l cur w m st) (hl : l.length ≤ 400) (hq : q = 0 ∨ (q ∈ nums l ∧ Reached xs rs q)) (hf : Fits q) :
    Calls Try.prog 80 #[.int .i64 q, .pointer (some ⟨B + 1, 0, none⟩), .pointer (some ⟨B + 2, 0, none⟩)] w (VisitPost w0 B xs rs l cur m st q) := by
  have h0 := h
  obtain ⟨n, h1, h2, h3, h4, h5, h6⟩ := h
  by_cases hq0 : q = 0
  · subst hq0
    refine (visit_zero B n m st w h1).mono ?_
    rintro e w' ⟨rfl, rfl⟩
    exact ⟨m, st, rfl, h0, fun h => absurd rfl h, fun _ h => h, Nat.le_refl _⟩
  · by_cases hm : m q = true
    · refine (visit_old q B n m st w h1 hf hq0 hm).mono ?_
      rintro e w' ⟨rfl, rfl⟩
      exact ⟨m, st, rfl, h0, fun _ => hm, fun _ h => h, Nat.le_refl _⟩
    · have hm' : m q = false := by simpa using hm
      obtain ⟨hqm, hqr⟩ := hq.resolve_left hq0
      have hu := unmarked_set hqm hm'
      refine (visit_new q B n m st w h1 hf hq0 hm' (by omega) (by omega)).mono ?_
      rintro e w' ⟨rfl, hst, hbel⟩
      refine ⟨_, _, rfl, ⟨n + 1, hst, by omega, by simp; omega, h4.trans hbel, Nat.le_trans h5 hbel.size, h6.push hqm hqr⟩, fun _ => setAt_same _ _ _, fun _ h => setAt_mono h, by simp; omega⟩

/-- What mark hands back. -/
def MarkPost (w : World) (xs rs : List Int) (l : List Nat) (e : Ending) (w' : World) : Prop :=
  ∃ (mb n : Nat) (m : Int → Bool), e = .returned (.map (some mb)) ∧ w.heap.size ≤ mb ∧ MapB w' mb n m ∧ (∀ q, (m q = true ↔ Reached xs rs q)) ∧ Below w.heap.size w w'

/-- A shorter part of a list of the call's own. -/
theorem Own.short {w : World} {base n c g : Nat} {xs : List Int} {y : Int} (h : Own w base (.slice (some ⟨g, 0, none⟩) n c) (xs ++ [y])) : Own w base (.slice (some ⟨g, 0, none⟩) xs.length c) xs := by
  refine ⟨by simp, ?_⟩
  rcases h.2 with ⟨h2, _⟩ | ⟨g', cap, cur, hv, hg, hh, r1, r2, r3, r4⟩
  · cases h2
  · simp only [Value.slice.injEq] at hv
    obtain ⟨hv1, hv2, hv3⟩ := hv
    subst hv3
    injection hv1 with hv1
    injection hv1 with hv1
    subst hv1
    refine .inr ⟨g, c, cur, rfl, hg, hh, by simp at r1; omega, r2, r3, ?_⟩
    rw [Nat.mul_one] at r4 ⊢
    have := congrArg (List.take xs.length) r4
    rw [List.take_take] at this
    simp at this
    exact this

theorem MarkSt.pop {w : World} {B n : Nat} {m : Int → Bool} {st : List Int} {p : Int} (h : MarkSt w B n m (st ++ [p])) : ∃ g c, w.heap[B + 2]? = some (.cells #[.slice (some ⟨g, 0, none⟩) (st.length + 1) c] 25 (0, 0)) ∧ B + 3 ≤ g ∧ g < w.heap.size ∧ st.length + 1 ≤ c ∧ c ≤ 9223372036854775807 ∧ w.cell? ⟨g, st.length, none⟩ = some (.int .i64 p) ∧
    MarkSt (w.setCell ⟨B + 2, 0, none⟩ (.slice (some ⟨g, 0, none⟩) st.length c)) B n m st := by
  obtain ⟨h1, h2, v, h3, h4⟩ := h
  obtain ⟨a, c, rfl, hi⟩ := h4.ints
  obtain ⟨g, rfl, hg1, hg2, hg3, hg4⟩ := h4.row (by simp)
  have hc : st.length + 1 ≤ c ∧ c ≤ 9223372036854775807 := by
    rcases h4.2 with ⟨h5, _⟩ | ⟨g', cap, cur, hv, _, _, r1, r2, _⟩
    · cases h5
    · simp only [Value.slice.injEq] at hv
      unfold maxLen at r2
      simp at r1
      omega
  have hcell := hg3 st.length (by simp)
  have hgd : (st ++ [p]).getD st.length 0 = p := by simp [List.getD_eq_getElem?_getD]
  rw [hgd] at hcell
  have hlen : (st ++ [p]).length = st.length + 1 := by simp
  rw [hlen] at h3 h4
  refine ⟨g, c, h3, hg1, hg2, hc.1, hc.2, hcell, ?_, ?_, _, one_setCell h3, ?_⟩
  · exact (Below.heap_setCell _ _ _ _ (by simp)).trans h1
  · exact h2.kept (Below.heap_setCell _ _ _ _ (by simp))
  · exact ownsRow_setCell_other (Own.short h4) (by simp [Value.ownBlock]; omega) _

theorem MarkSt.none {w : World} {B n : Nat} {m : Int → Bool} (h : MarkSt w B n m []) : ∃ a c, w.heap[B + 2]? = some (.cells #[.slice a 0 c] 25 (0, 0)) := by
  obtain ⟨h1, h2, v, h3, h4⟩ := h
  obtain ⟨a, c, rfl, _⟩ := h4.ints
  exact ⟨a, c, h3⟩
end Go.Proofs.Ytpdcaoagpjcgbab
