/-
  The walk of slices.Clone over acts. It proves no statement by itself.
-/
import Derived.Test.YtpdcaoagpjcgbabPlA
set_option linter.unusedVariables false
set_option linter.unusedSimpArgs false
namespace Go.Proofs.Ytpdcaoagpjcgbab
open Go.RowKit Stm

set_option maxHeartbeats 1600000 in
set_option maxRecDepth 100000 in
theorem cloneC_any (b f L c : Nat) (l : List Stm.Act) (w : World) (hl : l.length = L) (hL : L ≤ 1000) (ha : ActsAt w (some ⟨b, f, none⟩) l) :
    Calls Try.prog 39 #[.slice (some ⟨b, f, none⟩) L c] w fun e w' => ∃ a' c', e = .returned (.slice a' L c') ∧ OwnC w' w.heap.size (.slice a' L c') l ∧ Below w.heap.size w w' := by
  have HL := Lib.hide hl
  have HA := Lib.hide ha
  clear hl ha
  have heq := fun w => Lib.run_eql_slice_nil (P := Try.prog) w 61 71 (some ⟨b, f, none⟩) L c 0 0 Try.underlying61
  go_enter Try.func39, Try.ntmps39
  go_wp2_with (at_builtin; refine wpList_append_from _ rfl (.tmp 5) (.tmp 6) rfl w.heap.size _ b f L c [] l rfl rfl HL.out ?h1 (HA.out.below ?h2) ?h3 ?h4 ?_)
  case h1 => exact ⟨rfl, .inr ⟨w.heap.size, 0, #[], rfl, Nat.le_refl _, heap_alloc_new w _, Nat.le_refl _, Nat.zero_le _, rfl, rfl⟩⟩
  case h2 => exact (by repeat (first | exact Below.refl _ _ | assumption | refine Below.drew ?_ | refine below_drewN ?_ _ | refine Below.allocs ?_ | refine Below.next ?_ (by assumption) | refine Below.setCell ?_ (by dsimp only; omega) _))
  case h3 => simp; omega
  case h4 => simp
  intro v' w' ho hb
  have hB : Below w.heap.size w w' := Below.step (show Below w.heap.size w (w.alloc (.cells #[] 71)) from (by repeat (first | exact Below.refl _ _ | assumption | refine Below.drew ?_ | refine below_drewN ?_ _ | refine Below.allocs ?_ | refine Below.next ?_ (by assumption) | refine Below.setCell ?_ (by dsimp only; omega) _))) hb
  obtain ⟨a', c', rfl⟩ : ∃ a' c', v' = .slice a' L c' := by
    rcases ho.2 with ⟨h5, h6⟩ | ⟨g, cap, cur, h5, _⟩
    · exact ⟨none, 0, by rw [h5, ← HL.out, h6]⟩
    · exact ⟨_, cap, by rw [h5, HL.out]⟩
  have HF := Lib.hide (And.intro ho hB)
  clear ho hb hB
  go_wp2
  go_ret
  exact ⟨a', c', rfl, HF.out⟩
end Go.Proofs.Ytpdcaoagpjcgbab

