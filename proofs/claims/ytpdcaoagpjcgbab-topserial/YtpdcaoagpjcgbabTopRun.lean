/-
  The walk of limewashtop.run. It proves no statement by itself.
-/
import Derived.Test.YtpdcaoagpjcgbabLawB
set_option linter.unusedVariables false
set_option linter.unusedSimpArgs false
namespace Go.Proofs.Ytpdcaoagpjcgbab
open Go.RowKit Stm

theorem run_lenN (n : Nat) (h1 : 1 ≤ n) (h2 : n ≤ 400) (l : List Stm.Act) (a : Option Addr) (L cp : Nat) (w : World) (hl : l.length = L) (hL : L ≤ 400) (ha : ActsAt w a l) :
    Calls Try.prog 32 #[.int .i64 n, .slice a L cp] w (RunL w n l L) := by
  refine (run_yes n l a L cp w h1 h2 hl hL ha).mono ?_
  rintro e w' ⟨rs, c, lf, a1, c1, a2, c2, rfl, hr, ho, _, hb⟩
  have hlen := hr.length
  rw [hl] at hlen
  have hrd := ho.reads
  rw [hlen] at ho
  refine ⟨rs, c, lf, a1, c1, a2, _, c2, _, by rw [hlen], hlen, hr, hrd.2, ?_, hb⟩
  rcases ho.2 with ⟨e, h1⟩ | ⟨g, cap, cur, e, _, _, hnc, _⟩
  · injection e with e1 e2 e3
    omega
  · injection e with e1 e2 e3
    omega

/-- What the run of a script over 400 words leaves. -/
def RunT (w : World) (l : List Stm.Act) (L : Nat) (e : Ending) (w' : World) : Prop :=
  ∃ (rs : List Ans) (c : Mc) (lf : List Nat) (a1 : Option Addr) (c1 : Nat), e = .returned (.tuple #[.slice a1 L c1, .bool true]) ∧ rs.length = L ∧ RunC 400 l rs c lf ∧ AnsAt w' a1 rs ∧ L ≤ c1 ∧ Below w.heap.size w w'

set_option maxHeartbeats 1600000 in
set_option maxRecDepth 100000 in
theorem topRun_any (l : List Stm.Act) (a : Option Addr) (L cp : Nat) (w : World) (hl : l.length = L) (hL : L ≤ 400) (ha : ActsAt w a l) :
    Calls Try.prog 41 #[.slice a L cp] w (RunT w l L) := by
  have C := Lib.hide (show Calls Try.prog 32 #[.int .i64 400, .slice a L cp] w (RunL w 400 l L) from run_lenN 400 (by omega) (by omega) l a L cp w hl hL ha)
  clear hl hL ha
  go_enter Try.func41, Try.ntmps41
  go_wp2_with fail
  refine C.out.mono ?_
  rintro e w1 ⟨rs, c, lf, a1, c1, a2, n2, c2, t, rfl, h1, h2, h3, h4, h5⟩
  have hX : Below w1.heap.size w1 (w1.alloc (.cells #[.slice a2 n2 c2, .int .i64 t] 27)) := (by repeat (first | exact Below.refl _ _ | assumption | refine Below.drew ?_ | refine below_drewN ?_ _ | refine Below.allocs ?_ | refine Below.next ?_ (by assumption) | refine Below.setCell ?_ (by dsimp only; omega) _))
  have HF := Lib.hide (show RunT w l L (.returned (.tuple #[.slice a1 L c1, .bool true])) (w1.alloc (.cells #[.slice a2 n2 c2, .int .i64 t] 27)) from ⟨rs, c, lf, a1, c1, rfl, h1, h2, h3.below hX, h4, Below.step h5 (Below.mono hX h5.size)⟩)
  clear h1 h2 h3 h4 h5 hX
  go_wp2
  go_ret2
  exact HF.out
end Go.Proofs.Ytpdcaoagpjcgbab

