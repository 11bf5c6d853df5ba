/-
  limewashtop.TopSerial: what committed transactions read, they read when they are run one by one in the order of their commits: the statement holds for every argument, with no condition.
-/
import Derived.Test.YtpdcaoagpjcgbabSerialLaws
import Derived.Test.YtpdcaoagpjcgbabLawA
set_option linter.unusedVariables false
set_option linter.unusedSimpArgs false
namespace Go.Proofs.Ytpdcaoagpjcgbab.topSerial
open Go.ChangeShapes Go.WideShapes Go.ChangeAt Go.RowKit Go.Joins

set_option maxRecDepth 100000 in
theorem lifted (os : Os) (started : os.Started) (H : Type) (enc : TypeId × Value → H) :
    ReturnsInHanded {} Try.checked os 11 .any (Rows.topSerialSpec.pre6 enc Try.prog Try.f11 Rows.topSerialRow.domain false) (Rows.topSerialSpec.post enc Try.prog Try.f11 false true false false) := by
  refine law_lift started Try.func11 (by kernel_rfl) rfl rfl (by kernel_rfl) (fun H ds hl => ?_)
    (ChangeSpec.witness6 (enc := enc) (C := Try.checked) false ⟨#[], #[.slice none 0 0], []⟩ 8 (by kernel_rfl) (by kernel_rfl) (by kernel_rfl) (by kernel_rfl)) ?_
  · rw [Try.params11] at hl
    match ds, hl with
    | [d0], _ => rfl
  · intro W base args ds p hval hA hsz
    rw [Try.params11] at hA hval hsz
    obtain ⟨v0, d0, rfl, rfl, h0⟩ := trodAll_one hA
    obtain ⟨a0, n0, cap0, R0, rfl, hc0, hm0, hi0⟩ := open_raws (hval 0 22 v0 rfl rfl) h0
    exact walk a0 n0 cap0 R0 hc0 hm0 W hi0

theorem proved : Rows.TopSerialSaid :=
  OpenClaim.holds_of_wide 11 Try.f11 rfl rfl rfl rfl rfl rfl rfl ⟨rfl, rfl, rfl, rfl, rfl⟩ rfl rfl rfl rfl rfl (by kernel_rfl) Try.func11 (by kernel_rfl)
    (of_decide_eq_true (by kernel_rfl)) (by unfold Func.isWrapper; first | (rw [if_pos (by decide +kernel)]; kernel_rfl) | (rw [if_neg (by decide +kernel)]; exact ⟨rfl, rfl⟩))
    (fun os started H enc _ => lifted os started H enc)
#print axioms proved
end Go.Proofs.Ytpdcaoagpjcgbab.topSerial

