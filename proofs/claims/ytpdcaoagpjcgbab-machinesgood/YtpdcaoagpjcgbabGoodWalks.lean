/-
  stm.Run where it is refused, and acts that fail: the walks and the mathematics that limewashkeep.MachinesGood asks. It proves no statement by itself.
-/
import Derived.Test.YtpdcaoagpjcgbabEndWalks
import Derived.Test.YtpdcaoagpjcgbabCloneWalks
import Derived.Test.YtpdcaoagpjcgbabFreeA
import Derived.Test.YtpdcaoagpjcgbabEqualWalks
set_option linter.unusedVariables false
set_option linter.unusedSimpArgs false
namespace Go.Proofs.Ytpdcaoagpjcgbab
open Go.RowKit Stm

theorem bad3 {n : Nat} {l : List Stm.Act} {k : Int} {rs : List Ans} {c : Mc} {lf : List Nat} (hk : 13 ≤ k) (h : RunC n (l ++ [⟨k, 0, 0, 0, 0⟩, ⟨5, 0, 4, 0, 0⟩, ⟨1, -1, 0, 0, 0⟩]) rs c lf) : ∃ r1 lf1, RunC n l r1 c lf1 ∧ rs = r1 ++ [.err 3, .err 2, .err 2] := by
  obtain ⟨r1, r2, c1, lf1, rfl, h1, h2⟩ := h.steps l [⟨k, 0, 0, 0, 0⟩, ⟨5, 0, 4, 0, 0⟩, ⟨1, -1, 0, 0, 0⟩] rfl
  have e1 : firstErr ⟨k, 0, 0, 0, 0⟩ = 3 := by unfold firstErr; rw [if_pos (.inr (by dsimp only; omega))]
  have e2 : firstErr ⟨5, 0, 4, 0, 0⟩ = 2 := by decide
  have e3 : firstErr ⟨1, -1, 0, 0, 0⟩ = 2 := by decide
  cases h2 with
  | cons s1 g1 h2 => cases h2 with
    | cons s2 g2 h2 => cases h2 with
      | cons s3 g3 h2 =>
        cases h2
        obtain ⟨rfl, rfl⟩ := s1.no (by rw [e1]; decide)
        obtain ⟨rfl, rfl⟩ := s2.no (by rw [e2]; decide)
        obtain ⟨rfl, rfl⟩ := s3.no (by rw [e3]; decide)
        rw [e1, e2, e3]
        exact ⟨r1, lf1, h1, rfl⟩

/-- What a run that is refused leaves. -/
def RunNo (w : World) (code : Int) (e : Ending) (w' : World) : Prop := e = .returned (.tuple #[.slice none 0 0, .agg #[.slice none 0 0, .int .i64 0], .int .i64 code]) ∧ Below w.heap.size w w'

set_option maxHeartbeats 1600000 in
set_option maxRecDepth 100000 in
theorem run_zero (w : World) : Calls Try.prog 32 #[.int .i64 0, .slice none 0 0] w (RunNo w 2) := by
  go_enter Try.func32, Try.ntmps32
  go_wp2_with fail
  have hW : Below w.heap.size w (w.alloc (.cells #[.slice none 0 0, .int .i64 0] 27)) := (by repeat (first | exact Below.refl _ _ | assumption | refine Below.drew ?_ | refine below_drewN ?_ _ | refine Below.allocs ?_ | refine Below.next ?_ (by assumption) | refine Below.setCell ?_ (by dsimp only; omega) _))
  have hB0 := Box2.new w (.slice none 0 0) (.int .i64 0) 27
  generalize w.alloc (.cells #[.slice none 0 0, .int .i64 0] 27) = W at hW hB0 ⊢
  refine (new_no 0 W (by omega)).mono ?_
  rintro e w1 ⟨rfl, hb1⟩
  have HB1 := Lib.hide (Below.next hW hb1)
  obtain ⟨q0, q1, q2, q3, q4⟩ := hB0.next hb1
  have n1 : w.heap.size ≠ w1.heap.size := by have := hb1.size; omega
  clear hW hb1 hB0
  go_wp2
  refine bodyPost_ret (v := .tuple #[.slice none 0 0, .agg #[.slice none 0 0, .int .i64 0], .int .i64 2]) (by simp only [results, Try.results32]; go_simp) rfl ⟨rfl, ?_⟩
  have := HB1.out
  exact (by repeat (first | exact Below.refl _ _ | assumption | refine Below.drew ?_ | refine below_drewN ?_ _ | refine Below.allocs ?_ | refine Below.next ?_ (by assumption) | refine Below.setCell ?_ (by dsimp only; omega) _))

set_option maxHeartbeats 1600000 in
set_option maxRecDepth 100000 in
theorem run_big (n L cp : Nat) (a : Option Addr) (w : World) (h1 : 1 ≤ n) (h2 : n ≤ 400) (h3 : 400 < L) (h4 : L ≤ 1000) : Calls Try.prog 32 #[.int .i64 n, .slice a L cp] w (RunNo w 1) := by
  go_enter Try.func32, Try.ntmps32
  go_wp2_with fail
  have hW : Below w.heap.size w (w.alloc (.cells #[.slice none 0 0, .int .i64 0] 27)) := (by repeat (first | exact Below.refl _ _ | assumption | refine Below.drew ?_ | refine below_drewN ?_ _ | refine Below.allocs ?_ | refine Below.next ?_ (by assumption) | refine Below.setCell ?_ (by dsimp only; omega) _))
  have hB0 := Box2.new w (.slice none 0 0) (.int .i64 0) 27
  generalize w.alloc (.cells #[.slice none 0 0, .int .i64 0] 27) = W at hW hB0 ⊢
  refine (new_yes n W h1 h2).mono ?_
  rintro e w1 ⟨a1, c1, rfl, ho1, hb1⟩
  have HB1 := Lib.hide (Below.next hW hb1)
  obtain ⟨q0, q1, q2, q3, q4⟩ := hB0.next hb1
  have n1 : w.heap.size ≠ w1.heap.size := by have := hb1.size; omega
  have hL' : 400 < (L : Int) := by omega
  clear hW hb1 hB0 ho1
  go_wp2
  refine bodyPost_ret (v := .tuple #[.slice none 0 0, .agg #[.slice none 0 0, .int .i64 0], .int .i64 1]) (by simp only [results, Try.results32]; go_simp) rfl ⟨rfl, ?_⟩
  have := HB1.out
  exact (by repeat (first | exact Below.refl _ _ | assumption | refine Below.drew ?_ | refine below_drewN ?_ _ | refine Below.allocs ?_ | refine Below.next ?_ (by assumption) | refine Below.setCell ?_ (by dsimp only; omega) _))
end Go.Proofs.Ytpdcaoagpjcgbab

