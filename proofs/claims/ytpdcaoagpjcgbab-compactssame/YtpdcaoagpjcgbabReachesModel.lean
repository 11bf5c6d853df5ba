/-
  Plain mathematics of reachability: what is reachable from the reachable. No program is named here. It proves no statement by itself.
-/
import Derived.Test.YtpdcaoagpjcgbabGcModel
set_option linter.unusedVariables false
set_option linter.unusedSimpArgs false
namespace Go.Proofs.Ytpdcaoagpjcgbab

theorem Reached.mono {xs rs rs' : List Int} (h : ∀ q ∈ rs', q ≠ 0 → Reached xs rs q) {q : Int} (hq : Reached xs rs' q) : Reached xs rs q := by
  induction hq with
  | root h1 h0 => exact h _ h1 h0
  | step _ h2 ih => exact .step ih h2

open Lw in
theorem ReachOf.self {xs rs zs : List Int} {l : List Nat} (h : ReachOf xs l rs zs) (hf : FieldsOk xs l) (hr : RootsOk (nums l) rs) (hl : ∀ p ∈ l, 1 ≤ p) : ReachOf xs l zs zs := by
  have hm := fun q => h.mem hf hr (q := q)
  obtain ⟨m, rfl, h1⟩ := h
  refine ⟨m, rfl, fun q hq => ⟨fun h2 => .root (List.mem_filter.2 ⟨hq, h2⟩) ?_, fun h2 => (h1 q hq).2 (Reached.mono (fun q' h3 _ => (hm q').1 h3) h2)⟩⟩
  obtain ⟨p, hp, rfl⟩ := List.mem_map.1 hq
  have := hl p hp
  omega

open Lw in
theorem valid_two : Valid [0, 0, 0, 0, 1, 3] 6 [1, 3] := by
  refine ⟨by simp, by simp, by omega, by simp, ⟨by decide +kernel, ?_⟩, ?_, ?_⟩
  · intro p hp
    simp at hp
    rcases hp with rfl | rfl <;> (unfold StOk; simp)
  · intro p hp k hk
    simp at hp
    rcases hp with rfl | rfl
    · simp at hk
      omega
    · simp at hk
      obtain rfl : k = 0 := by omega
      exact ⟨fun _ => .inr ⟨1, by simp, by simp⟩, fun h => by simp at h⟩
  · intro k h1 h2
    simp at h1 h2
    omega

theorem reach_two {zs : List Int} (h : ReachOf [0, 0, 0, 0, 1, 3] [1, 3] [3] zs) : zs.length = 2 := by
  obtain ⟨m, rfl, h⟩ := h
  have h3 : Reached [0, 0, 0, 0, 1, 3] [3] ((3 : Nat) : Int) := .root (by simp) (by simp)
  have m3 := (h 3 (by simp [nums])).2 h3
  have m1 := (h 1 (by simp [nums])).2 (.step h3 ⟨0, by simp, by simp, by simp, by omega⟩)
  simp [nums, m1, m3]

theorem fits_get {xs : List Int} (hf : ∀ x ∈ xs, Fits x) {i : Nat} (h : i < xs.length) : Fits (xs.getD i 0) := by
  have : xs.getD i 0 = xs[i] := by simp [List.getD_eq_getElem?_getD, List.getElem?_eq_getElem h]
  rw [this]
  exact hf _ (List.getElem_mem h)

theorem mem_getD {zs : List Int} {i : Nat} (h : i < zs.length) : zs.getD i 0 ∈ zs := by
  have : zs.getD i 0 = zs[i] := by simp [List.getD_eq_getElem?_getD, List.getElem?_eq_getElem h]
  rw [this]
  exact List.getElem_mem h
end Go.Proofs.Ytpdcaoagpjcgbab
