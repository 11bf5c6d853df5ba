/-
  The walk of heap.Copy. It proves no statement by itself.
-/
import Derived.Test.YtpdcaoagpjcgbabNewWalks
import Derived.Laws.CopyOwn
import Derived.Deep.RegionLaw
set_option linter.unusedVariables false
set_option linter.unusedSimpArgs false
namespace Go.Proofs.Ytpdcaoagpjcgbab
open Go.RowKit

/-- A copy of a heap: new memory that reads the same. -/
def CopyPost (w : World) (xs : List Int) (n : Nat) (top : Int) (e : Ending) (w' : World) : Prop :=
  ∃ a cap, e = .returned (.agg #[.slice a n cap, .int .i64 top]) ∧ Own w' w.heap.size (.slice a n cap) xs ∧ Below w.heap.size w w'

theorem heap_alloc_third (w : World) (o o' o'' : Obj) : (((w.alloc o).alloc o').alloc o'').heap[w.heap.size + 2]? = some o'' := by
  have := heap_alloc_new ((w.alloc o).alloc o') o''
  simpa using this

/-- A copied row, as a list of numbers. -/
theorem own_spliced {w' : World} {base n g : Nat} {xs : List Int} (hxs : xs.length = n) (hb : base ≤ g) (hm : n ≤ maxLen)
    (hg : w'.heap[g]? = some (.cells (splice (madeCells #[.int .i64 0] n).toList 0 (xs.map (Value.int .i64))).toArray 3 (0, 0))) :
    Own w' base (.slice (some ⟨g, 0, none⟩) n n) xs := by
  have e : splice (madeCells #[Value.int .i64 0] n).toList 0 (xs.map (Value.int .i64)) = xs.map (Value.int .i64) := by
    unfold splice
    rw [toList_madeCells_one]
    simp
    omega
  rw [e] at hg
  exact ⟨by simp, .inr ⟨g, n, _, by rw [hxs], hb, hg, by omega, hm, by simp [hxs], by rw [Nat.mul_one]; exact List.take_of_length_le (by simp)⟩⟩

theorem cell_lt {w : World} {p : Addr} {v : Value} (h : w.cell? p = some v) : p.block < w.heap.size := by
  rcases Nat.lt_or_ge p.block w.heap.size with h' | h'
  · exact h'
  · have : w.heap[p.block]? = none := Array.getElem?_eq_none h'
    simp [World.cell?, this] at h

theorem add_none (b o i : Nat) : (⟨b, o, none⟩ : Addr).add i = ⟨b, o + i, none⟩ := by
  unfold Addr.add
  by_cases hi0 : i = 0 <;> simp [hi0]

/-- The cells of a slice, one behind the other, as copy and append ask for them. -/
theorem Ints.src {w : World} {a : Option Addr} {xs : List Int} (h : Ints w a xs) (h0 : 0 < (xs.map (Value.int .i64)).length) :
    ∃ ad, a = some ad ∧ ∀ j v, (xs.map (Value.int .i64))[j]? = some v → w.cell? (ad.add j) = some v := by
  rcases h with rfl | ⟨b, o, rfl, hlt, hc⟩
  · simp at h0
  · refine ⟨_, rfl, fun j v hj => ?_⟩
    have hjl : j < xs.length := by
      rcases Nat.lt_or_ge j xs.length with h' | h'
      · exact h'
      · rw [List.getElem?_eq_none (by simpa using h')] at hj; cases hj
    rw [add_none, hc j hjl]
    simp [List.getElem?_map, List.getElem?_eq_getElem hjl] at hj
    simp [List.getD_eq_getElem?_getD, List.getElem?_eq_getElem hjl, hj]

theorem ints_one (xs : List Int) : ∀ v ∈ xs.map (Value.int .i64), v.oneCell' = true := by
  intro v hv
  simp at hv
  obtain ⟨x, _, rfl⟩ := hv
  rfl

set_option maxHeartbeats 400000 in
theorem copy_any (a : Option Addr) (n cap : Nat) (xs : List Int) (top : Int) (w : World) (hi : Ints w a xs) (hn : xs.length = n) (hl : n * 8 ≤ 140737488355328) :
    Calls Try.prog 54 #[.agg #[.slice a n cap, .int .i64 top]] w (CopyPost w xs n top) := by
  have hmk := fun W => run_make_row' (P := Try.prog) 25 3 (.int .i64 0) 8 Try.underlying25 Try.intInfo rfl .i64 .i64 n (by omega) (by omega) W
  obtain ⟨cs, hcs⟩ : ∃ cs, cs = xs.map (Value.int .i64) := ⟨_, rfl⟩
  have hcl : cs.length = n := by rw [hcs]; simpa using hn
  have h1 : ∀ v ∈ cs, v.oneCell' = true := by rw [hcs]; exact ints_one xs
  have hsrc : ∀ w', Below w.heap.size w w' → 0 < cs.length → ∃ ad, a = some ad ∧ ∀ j v, cs[j]? = some v → w'.cell? (ad.add j) = some v := by
    rw [hcs]; exact fun w' hb h0 => (hi.below hb).src h0
  have HS := Lib.hide hsrc
  have H1 := Lib.hide h1
  have HL := Lib.hide hcl
  have HC := Lib.hide hcs
  have HN := Lib.hide hn
  clear hsrc h1 hcl hcs hi hn
  go_enter Try.func54, Try.ntmps54
  go_wp2_with (with_reducible refine wpList_copy_splice rfl (.tmp 8) (.tmp 10) 25 25 rfl 3 Try.underlying25 (by kernel_rfl) _ _ _ _ _ _ rfl rfl (w.heap.size + 2) 0 (madeCells #[.int .i64 0] n).toList 3 ?hg cs ?hn ?hp ?hf H1.out (w.heap.size + 2) _ (Below.refl _ _) (Nat.le_refl _) ?_)
  case hg => exact heap_alloc_third _ _ _ _
  case hn => rw [HL.out]; exact (Nat.min_self n).symm
  case hp => exact fun h0 => HS.out _ (by repeat (first | exact Below.refl _ _ | assumption | refine Below.drew ?_ | refine below_drewN ?_ _ | refine Below.allocs ?_ | refine Below.next ?_ (by assumption) | refine Below.setCell ?_ (by dsimp only; omega) _)) h0
  case hf => rw [toList_madeCells_one, HL.out]; simp
  intro w' HG hB
  rw [HC.out] at HG
  have d1 : w'.cell? ⟨w.heap.size, 1, none⟩ = some (.int .i64 top) := by rw [hB.cell (p := ⟨w.heap.size, 1, none⟩) (by simp)]; go_simp
  have r0 : w'.cell? ⟨w.heap.size + 1, 0, none⟩ = some (.slice none 0 0) := by rw [hB.cell (p := ⟨w.heap.size + 1, 0, none⟩) (by simp)]; go_simp
  have r1 : w'.cell? ⟨w.heap.size + 1, 1, none⟩ = some (.int .i64 0) := by rw [hB.cell (p := ⟨w.heap.size + 1, 1, none⟩) (by simp)]; go_simp
  have f0 : w'.frozen? ⟨w.heap.size + 1, 0, none⟩ = false := by rw [hB.frozen (p := ⟨w.heap.size + 1, 0, none⟩) (by simp)]; go_simp
  have f1 : w'.frozen? ⟨w.heap.size + 1, 1, none⟩ = false := by rw [hB.frozen (p := ⟨w.heap.size + 1, 1, none⟩) (by simp)]; go_simp
  have hbel : Below w.heap.size w w' := (Below.trans (b := ((w.alloc _).alloc _).alloc _) (by repeat (first | exact Below.refl _ _ | assumption | refine Below.drew ?_ | refine below_drewN ?_ _ | refine Below.allocs ?_ | refine Below.next ?_ (by assumption) | refine Below.setCell ?_ (by dsimp only; omega) _)) (hB.mono (by omega)))
  clear hB hmk HS
  go_wp2
  exact bodyPost_ret (v := .agg #[.slice (some ⟨w.heap.size + 1 + 1, 0, none⟩) n n, .int .i64 top]) (by simp [results, Try.results54, go_sem, r0, r1]) rfl
    ⟨_, _, rfl, own_spliced HN.out (by omega) (by unfold maxLen; omega) ((Below.heap_setCell _ _ _ _ (by simp)).trans ((Below.heap_setCell _ _ _ _ (by simp)).trans HG.out)), (hbel.setCell (by simp) _).setCell (by simp) _⟩

theorem ownsRow_base {w : World} {base base' : Nat} {e : TypeId} {size : Nat} {v : Value} {n : Nat} {xs : List Value} (h : w.ownsRow base e size v n xs) (hb : base' ≤ base) : w.ownsRow base' e size v n xs := by
  refine ⟨h.1, ?_⟩
  rcases h.2 with h2 | ⟨g, cap, cur, hv, hg, r⟩
  · exact .inl h2
  · exact .inr ⟨g, cap, cur, hv, by omega, r⟩

end Go.Proofs.Ytpdcaoagpjcgbab
