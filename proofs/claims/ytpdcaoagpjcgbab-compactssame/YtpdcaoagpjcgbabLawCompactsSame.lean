/-
  A compacted heap is isomorphic to the retained objects: limewashkeep.CompactsSame returns true for every two lists of raw numbers. Conditions: none.
-/
import Derived.Test.YtpdcaoagpjcgbabSameLaws
set_option linter.unusedVariables false
set_option linter.unusedSimpArgs false
namespace Go.Proofs.Ytpdcaoagpjcgbab.compactsSame
open Go.ChangeShapes Go.WideShapes Go.ChangeAt Go.RowKit Go.Joins

set_option maxRecDepth 100000 in
theorem lifted (os : Os) (started : os.Started) (H : Type) (enc : TypeId × Value → H) :
    ReturnsInHanded {} Try.checked os 7 .any (Rows.compactsSameSpec.pre6 enc Try.prog Try.f7 Rows.compactsSameRow.domain false) (Rows.compactsSameSpec.post enc Try.prog Try.f7 false true false false) := by
  refine law_lift started Try.func7 (by kernel_rfl) rfl rfl (by kernel_rfl) (fun H ds hl => ?_)
    (ChangeSpec.witness6 (enc := enc) (C := Try.checked) false ⟨#[], #[.slice none 0 0, .slice none 0 0], []⟩ 8 (by kernel_rfl) (by kernel_rfl) (by kernel_rfl) (by kernel_rfl)) ?_
  · rw [Try.params7] at hl
    match ds, hl with
    | [d0, d1], _ => rfl
  · intro W base args ds p hval hA hsz
    rw [Try.params7] at hA hval hsz
    obtain ⟨v0, vs0, d0, ds0, p0, q0, hargs, rfl, rfl, h0, r0⟩ := trodAll_cons hA
    obtain ⟨v1, vs1, d1, ds1, p1, q1, rfl, rfl, rfl, h1, r1⟩ := trodAll_cons r0
    obtain ⟨rfl, rfl, rfl⟩ := trodAll_nil r1
    obtain rfl : args = #[v0, v1] := by cases args; simp_all
    obtain ⟨a0, n0, cap0, R0, rfl, hc0, hm0, hi0⟩ := open_raws (hval 0 22 v0 rfl rfl) h0
    obtain ⟨a1, n1, cap1, R1, rfl, hc1, hm1, hi1⟩ := open_raws (hval 1 22 v1 rfl rfl) h1
    exact walk a0 n0 cap0 R0 hc0 hm0 a1 n1 cap1 R1 hc1 hm1 W hi0 hi1

theorem proved : Rows.CompactsSameSaid :=
  OpenClaim.holds_of_wide 7 Try.f7 rfl rfl rfl rfl rfl rfl rfl ⟨rfl, rfl, rfl, rfl, rfl⟩ rfl rfl rfl rfl rfl (by kernel_rfl) Try.func7 (by kernel_rfl)
    (of_decide_eq_true (by kernel_rfl)) (by unfold Func.isWrapper; first | (rw [if_pos (by decide +kernel)]; kernel_rfl) | (rw [if_neg (by decide +kernel)]; exact ⟨rfl, rfl⟩))
    (fun os started H enc _ => lifted os started H enc)
#print axioms proved
end Go.Proofs.Ytpdcaoagpjcgbab.compactsSame
