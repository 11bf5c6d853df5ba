/-
  The end of the script of limewashtop.TopHeld: plain mathematics. It proves no statement by itself.
-/
import Derived.Test.YtpdcaoagpjcgbacHeldModel
set_option linter.unusedVariables false
set_option linter.unusedSimpArgs false
namespace Go.Proofs.Ytpdcaoagpjcgbac
open Stm

def aborts (t : Nat) : List Stm.Act := (List.range t).map fun i : Nat => (⟨3, (i : Int), 0, 0, 0⟩ : Stm.Act)
theorem aborts_succ (t : Nat) : aborts (t + 1) = aborts t ++ [⟨3, (t : Int), 0, 0, 0⟩] := by simp [aborts, List.range_succ]
theorem aborts_length (t : Nat) : (aborts t).length = t := by simp [aborts]
def held7 : List Stm.Act := [⟨11, 0, 0, 0, 400⟩, ⟨10, 0, 0, 0, 0⟩, ⟨11, 0, 0, 0, 400⟩, ⟨12, 0, 0, 0, 0⟩, ⟨10, 0, 0, 0, 0⟩, ⟨11, 0, 0, 0, 400⟩, ⟨12, 0, 0, 0, 0⟩]

theorem abort_shut {c c' : Mc} {l : List Nat} {t : Nat} {a : Ans} (ht : t < 4) (hs : StepC c l ⟨3, t, 0, 0, 0⟩ a c') : (c'.tx t).isOpen = false ∧ ∀ u, (c.tx u).isOpen = false → (c'.tx u).isOpen = false := by
  have h3 := step_abort ht hs
  by_cases ho : (c.tx t).isOpen = true
  · obtain ⟨_, ys, _, rfl⟩ := h3.yes ho
    refine ⟨by simp [upd, Tx.zero], fun u hu => ?_⟩
    show (upd c.tx t .zero u).isOpen = false
    rw [upd]
    split
    · rfl
    · exact hu
  · obtain ⟨_, rfl⟩ := h3.no ho
    exact ⟨by simpa using ho, fun u hu => hu⟩

theorem aborts_shut {n : Nat} {AL : List Stm.Act} : ∀ t, t ≤ 4 → ∀ {rs : List Ans} {c : Mc} {lf : List Nat}, RunC n (AL ++ aborts t) rs c lf → ∀ u, u < t → (c.tx u).isOpen = false
  | 0, _, _, _, _, _, u, hu => absurd hu (Nat.not_lt_zero _)
  | t + 1, ht, rs, c, lf, h, u, hu => by
    rw [aborts_succ, ← List.append_assoc] at h
    obtain ⟨r1, r2, c1, lf1, rfl, h1, h2⟩ := h.steps (AL ++ aborts t) [⟨3, (t : Int), 0, 0, 0⟩] rfl
    have ih := aborts_shut t (by omega) h1
    cases h2 with
    | cons hs hg h3 =>
      cases h3
      obtain ⟨k1, k2⟩ := abort_shut (by omega) hs
      rcases Nat.lt_or_ge u t with h5 | h5
      · exact k2 u (ih u h5)
      · obtain rfl : u = t := by omega
        exact k1

theorem held_end {AL : List Stm.Act} {rs : List Ans} {c : Mc} {lf : List Nat} (h : RunC 400 (AL ++ aborts 4 ++ held7) rs c lf) :
    ∃ pre a1 a2 a3 a4 a5, rs = pre ++ [a1, a2, a3, a4, a5, ⟨0, false, 0, false, 0, false, 0⟩, a4] ∧ pre.length = AL.length + 4 := by
  obtain ⟨r1, r2, c1, lf1, rfl, h1, h2⟩ := h.steps (AL ++ aborts 4) held7 rfl
  have hg := h1.good (by omega) (by omega)
  have hsh := aborts_shut 4 (by omega) h1
  have hz : Shut c1 := fun t => by
    rcases Nat.lt_or_ge t 4 with h5 | h5
    · exact hg.inv.shut t (hsh t h5)
    · exact hg.inv.high t h5
  have hlen := h1.length
  rw [List.length_append, aborts_length] at hlen
  unfold held7 at h2
  cases h2 with
  | cons s1 g1 h2 => cases h2 with
    | cons s2 g2 h2 => cases h2 with
      | cons s3 g3 h2 => cases h2 with
        | cons s4 g4 h2 => cases h2 with
          | cons s5 g5 h2 => cases h2 with
            | cons s6 g6 h2 => cases h2 with
              | cons s7 g7 h2 =>
                cases h2
                obtain ⟨rfl, rfl⟩ := held_all hz hg s1 g1 s2 g2 s3 g3 s4 g4 s5 g5 s6 g6 s7
                exact ⟨r1, _, _, _, _, _, rfl, hlen⟩
end Go.Proofs.Ytpdcaoagpjcgbac

