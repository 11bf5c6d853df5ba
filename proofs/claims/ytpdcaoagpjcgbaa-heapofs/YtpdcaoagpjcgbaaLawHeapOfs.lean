/-
  heap.Of returns the value for a word, half of it rounded down: limewashlaw.HeapOfs returns true for every integer. Conditions: none.
-/
import Derived.Test.YtpdcaoagpjcgbaaWordLaws
namespace Go.Proofs.Ytpdcaoagpjcgbaa.heapOfs
open Go.ChangeShapes Go.WideShapes Go.ChangeAt Go.RowKit Go.Joins

set_option maxRecDepth 100000 in
theorem lifted (os : Os) (started : os.Started) (H : Type) (enc : TypeId × Value → H) :
    ReturnsInHanded {} Try.checked os 11 .any (Rows.heapOfsSpec.pre6 enc Try.prog Try.f11 Rows.heapOfsRow.domain false) (Rows.heapOfsSpec.post enc Try.prog Try.f11 false true false false) := by
  refine law_lift started Try.func11 (by kernel_rfl) rfl rfl (by kernel_rfl) (fun H ds hl => ?_)
    (ChangeSpec.witness6 (enc := enc) (C := Try.checked) false ⟨#[], #[.int .i64 0], []⟩ 8 (by kernel_rfl) (by kernel_rfl) (by kernel_rfl) (by kernel_rfl)) ?_
  · rw [Try.params11] at hl
    match ds, hl with
    | [d0], _ => rfl
  · intro W base args ds p hval hA hsz
    rw [Try.params11] at hA hval hsz
    obtain ⟨v0, d0, rfl, rfl, h0⟩ := trodAll_one hA
    obtain ⟨a0, rfl, rfl, rfl, w0⟩ := open_int Try.underlying3 (hval 0 3 v0 rfl rfl) h0
    exact walk a0 (Fits.of_wf w0) W

theorem proved : Rows.HeapOfsSaid :=
  OpenClaim.holds_of_wide 11 Try.f11 rfl rfl rfl rfl rfl rfl rfl ⟨rfl, rfl, rfl, rfl, rfl⟩ rfl rfl rfl rfl rfl (by kernel_rfl) Try.func11 (by kernel_rfl)
    (of_decide_eq_true (by kernel_rfl)) (by unfold Func.isWrapper; first | (rw [if_pos (by decide +kernel)]; kernel_rfl) | (rw [if_neg (by decide +kernel)]; exact ⟨rfl, rfl⟩))
    (fun os started H enc _ => lifted os started H enc)
#print axioms proved
end Go.Proofs.Ytpdcaoagpjcgbaa.heapOfs
