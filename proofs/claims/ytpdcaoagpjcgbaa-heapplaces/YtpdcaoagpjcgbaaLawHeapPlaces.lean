/-
  heap.Places returns the addresses and the error of the reference: limewashlaw.HeapPlaces returns true for every heap. Conditions: none.
-/
import Derived.Test.YtpdcaoagpjcgbaaCheckLaws
namespace Go.Proofs.Ytpdcaoagpjcgbaa.heapPlaces
open Go.ChangeShapes Go.WideShapes Go.ChangeAt Go.RowKit Go.Joins

set_option maxRecDepth 100000 in
theorem lifted (os : Os) (started : os.Started) (H : Type) (enc : TypeId × Value → H) :
    ReturnsInHanded {} Try.checked os 6 .any (Rows.heapPlacesSpec.pre6 enc Try.prog Try.f6 Rows.heapPlacesRow.domain false) (Rows.heapPlacesSpec.post enc Try.prog Try.f6 false true false false) := by
  refine law_lift started Try.func6 (by kernel_rfl) rfl rfl (by kernel_rfl) (fun H ds hl => ?_)
    (ChangeSpec.witness6 (enc := enc) (C := Try.checked) false ⟨#[], #[.agg #[.slice none 0 0, .int .i64 0]], []⟩ 8 (by kernel_rfl) (by kernel_rfl) (by kernel_rfl) (by kernel_rfl)) ?_
  · rw [Try.params6] at hl
    match ds, hl with
    | [d0], _ => rfl
  · intro W base args ds p hval hA hsz
    rw [Try.params6] at hA hval hsz
    obtain ⟨v0, d0, rfl, rfl, h0⟩ := trodAll_one hA
    obtain ⟨a0, cap0, xs0, top0, rfl, hc0, hr0, hi0, hf0, ht0, hn0⟩ := open_heap (hval 0 24 v0 rfl rfl) h0 (sized_at hsz (j := 0) rfl rfl)
    exact walk a0 cap0 xs0 top0 hc0 hr0 hf0 ht0 hn0 W hi0

theorem proved : Rows.HeapPlacesSaid :=
  OpenClaim.holds_of_wide 6 Try.f6 rfl rfl rfl rfl rfl rfl rfl ⟨rfl, rfl, rfl, rfl, rfl⟩ rfl rfl rfl rfl rfl (by kernel_rfl) Try.func6 (by kernel_rfl)
    (of_decide_eq_true (by kernel_rfl)) (by unfold Func.isWrapper; first | (rw [if_pos (by decide +kernel)]; kernel_rfl) | (rw [if_neg (by decide +kernel)]; exact ⟨rfl, rfl⟩))
    (fun os started H enc _ => lifted os started H enc)
#print axioms proved
end Go.Proofs.Ytpdcaoagpjcgbaa.heapPlaces
