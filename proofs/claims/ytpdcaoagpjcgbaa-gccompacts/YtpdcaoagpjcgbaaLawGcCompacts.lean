/-
  gc.Compact returns the heap, the moves and the error of the reference, and leaves its argument as it was: limewashlaw.GcCompacts returns true for every heap and every list of addresses. Conditions: none.
-/
import Derived.Test.YtpdcaoagpjcgbaaCompactLaws
namespace Go.Proofs.Ytpdcaoagpjcgbaa.gcCompacts
open Go.ChangeShapes Go.WideShapes Go.ChangeAt Go.RowKit Go.Joins

set_option maxRecDepth 100000 in
theorem lifted (os : Os) (started : os.Started) (H : Type) (enc : TypeId × Value → H) :
    ReturnsInHanded {} Try.checked os 13 .any (Rows.gcCompactsSpec.pre6 enc Try.prog Try.f13 Rows.gcCompactsRow.domain false) (Rows.gcCompactsSpec.post enc Try.prog Try.f13 false true false false) := by
  refine law_lift started Try.func13 (by kernel_rfl) rfl rfl (by kernel_rfl) (fun H ds hl => ?_)
    (ChangeSpec.witness6 (enc := enc) (C := Try.checked) false ⟨#[], #[.agg #[.slice none 0 0, .int .i64 0], .slice none 0 0], []⟩ 8 (by kernel_rfl) (by kernel_rfl) (by kernel_rfl) (by kernel_rfl)) ?_
  · rw [Try.params13] at hl
    match ds, hl with
    | [d0, d1], _ => rfl
  · intro W base args ds p hval hA hsz
    rw [Try.params13] at hA hval hsz
    obtain ⟨v0, vs0, d0, ds0, p0, q0, hargs, rfl, rfl, h0, r0⟩ := trodAll_cons hA
    obtain ⟨v1, vs1, d1, ds1, p1, q1, rfl, rfl, rfl, h1, r1⟩ := trodAll_cons r0
    obtain ⟨rfl, rfl, rfl⟩ := trodAll_nil r1
    obtain rfl : args = #[v0, v1] := by cases args; simp_all
    obtain ⟨a0, cap0, xs0, top0, rfl, hc0, hr0, hi0, hf0, ht0, hn0⟩ := open_heap (hval 0 24 v0 rfl rfl) h0 (sized_at hsz (j := 0) rfl rfl)
    obtain ⟨a1, cap1, xs1, rfl, hc1, hr1, hi1, hf1, hn1⟩ := open_intsArg (hval 1 22 v1 rfl rfl) h1 (sized_at hsz (j := 1) rfl rfl)
    exact walk a0 cap0 xs0 top0 hc0 hr0 hf0 ht0 hn0 a1 cap1 xs1 hc1 hr1 hf1 hn1 W hi0 hi1

theorem proved : Rows.GcCompactsSaid :=
  OpenClaim.holds_of_wide 13 Try.f13 rfl rfl rfl rfl rfl rfl rfl ⟨rfl, rfl, rfl, rfl, rfl⟩ rfl rfl rfl rfl rfl (by kernel_rfl) Try.func13 (by kernel_rfl)
    (of_decide_eq_true (by kernel_rfl)) (by unfold Func.isWrapper; first | (rw [if_pos (by decide +kernel)]; kernel_rfl) | (rw [if_neg (by decide +kernel)]; exact ⟨rfl, rfl⟩))
    (fun os started H enc _ => lifted os started H enc)
#print axioms proved
end Go.Proofs.Ytpdcaoagpjcgbaa.gcCompacts
