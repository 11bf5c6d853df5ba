/-
  The walks of limewashkeep.run and limewashkeep.TransactionsEnd. It proves no statement by itself.
-/
import Derived.Test.YtpdcaoagpjcgbabEndWalks
import Derived.Test.YtpdcaoagpjcgbabSimC
set_option linter.unusedVariables false
set_option linter.unusedSimpArgs false
namespace Go.Proofs.Ytpdcaoagpjcgbab
open Go.RowKit Stm

/-- What the run of a script over 400 words leaves. -/
def RunK (w : World) (l : List Stm.Act) (L : Nat) (e : Ending) (w' : World) : Prop :=
  ∃ (rs : List Ans) (c : Mc) (lf : List Nat) (a1 : Option Addr) (c1 : Nat), e = .returned (.slice a1 L c1) ∧ rs.length = L ∧ RunC 400 l rs c lf ∧ AnsAt w' a1 rs ∧ L ≤ c1 ∧ Below w.heap.size w w'

set_option maxHeartbeats 1600000 in
set_option maxRecDepth 100000 in
theorem keepRun_any (l : List Stm.Act) (a : Option Addr) (L cp : Nat) (w : World) (hl : l.length = L) (hL : L ≤ 400) (ha : ActsAt w a l) :
    Calls Try.prog 36 #[.slice a L cp] w (RunK w l L) := by
  have C := Lib.hide (show Calls Try.prog 32 #[.int .i64 400, .slice a L cp] w (RunL w 400 l L) from run_lenN 400 (by omega) (by omega) l a L cp w hl hL ha)
  clear hl hL ha
  go_enter Try.func36, Try.ntmps36
  go_wp2_with fail
  refine C.out.mono ?_
  rintro e w1 ⟨rs, c, lf, a1, c1, a2, n2, c2, t, rfl, h1, h2, h3, h4, h5⟩
  have hX : Below w1.heap.size w1 (w1.alloc (.cells #[.slice a2 n2 c2, .int .i64 t] 27)) := (by repeat (first | exact Below.refl _ _ | assumption | refine Below.drew ?_ | refine below_drewN ?_ _ | refine Below.allocs ?_ | refine Below.next ?_ (by assumption) | refine Below.setCell ?_ (by dsimp only; omega) _))
  have HF := Lib.hide (show RunK w l L (.returned (.slice a1 L c1)) (w1.alloc (.cells #[.slice a2 n2 c2, .int .i64 t] 27)) from ⟨rs, c, lf, a1, c1, rfl, h1, h2, h3.below hX, h4, Below.step h5 (Below.mono hX h5.size)⟩)
  clear h1 h2 h3 h4 h5 hX
  go_wp2
  go_ret
  exact HF.out

theorem acts_newAt (w : World) (l : List Stm.Act) (B : Array Value) (t : TypeId) (hB : B = (ccells l).toArray) : ActsAt (w.alloc (.cells B t)) (some ⟨w.heap.size, 0, none⟩) l := by
  subst hB
  refine .inr ⟨w.heap.size, 0, rfl, by simp, fun i x hx => ?_⟩
  have hc : ∀ j v, (actCells x)[j]? = some v → (w.alloc (.cells (ccells l).toArray t)).cell? ⟨w.heap.size, 0 + i * 5 + j, none⟩ = some v := fun j v hv => by
    have := acts_new w l t (i * 5 + j) v (ccells_at l i x hx j v hv)
    rw [addr_add] at this
    rw [Nat.zero_add]
    exact this
  exact ⟨hc 0 _ rfl, hc 1 _ rfl, hc 2 _ rfl, hc 3 _ rfl, hc 4 _ rfl⟩

set_option maxHeartbeats 3200000 in
set_option maxRecDepth 100000 in
theorem end_walk (e k want : Int) (he : e = 2 ∨ e = 3) (hk : 0 ≤ k ∧ k < 1000) (hw : want = if e = 2 then k else 7) (w : World) (rs : List Ans) (c : Mc) (lf : List Nat) (a : Option Addr) (hl : rs.length = 11) (hc : RunC 400 (endActs e k) rs c lf) (ha : AnsAt w a rs) :
    ∃ b o, a = some ⟨b, o, none⟩ ∧ w.cell? ⟨b, o + 70, none⟩ = some (.int .i64 0) ∧ w.cell? ⟨b, o + 71, none⟩ = some (.bool true) ∧ w.cell? ⟨b, o + 72, none⟩ = some (.int .i64 want) ∧ w.cell? ⟨b, o + 73, none⟩ = some (.bool false) ∧ w.cell? ⟨b, o + 74, none⟩ = some (.int .i64 0) ∧ w.cell? ⟨b, o + 75, none⟩ = some (.bool false) ∧ w.cell? ⟨b, o + 76, none⟩ = some (.int .i64 0) := by
  have h1 := end_all he hk hc
  rw [← hw] at h1
  obtain ⟨b, o, rfl, _, hx⟩ := ha.resolve_left (fun h => by rw [h] at hl; simp at hl)
  have h2 := hx 10 _ h1
  exact ⟨b, o, rfl, h2 0 _ rfl, h2 1 _ rfl, h2 2 _ rfl, h2 3 _ rfl, h2 4 _ rfl, h2 5 _ rfl, h2 6 _ rfl⟩

set_option maxHeartbeats 3200000 in
set_option maxRecDepth 100000 in
theorem transactionsEnd.walk (x : Int) (Fx : Fits x) (keep : Bool) (w : World) :
    Calls Try.prog 9 #[.int .i64 x, .bool keep] w fun e w' => e = .returned (.bool true) ∧ Below w.heap.size w w' := by
  have CP := Lib.hide (fun w => picked_any x 1000 w Fx (by omega) (by omega))
  have hkk := pick_lt x 1000 (by omega)
  generalize pick x 1000 = k at CP hkk
  clear Fx
  have heq := Try.eqlAns
  cases keep with
  | true =>
    go_enter Try.func9, Try.ntmps9
    go_wp2_with (go_at_call 17; refine (CP.out _).mono ?_; rintro e w' ⟨rfl, rfl⟩)
    refine (keepRun_any (endActs 2 k) _ 11 11 _ rfl (by omega) (acts_newAt w (endActs 2 k) _ _ rfl)).mono ?_
    rintro e w1 ⟨rs, c, lf, a1, c1, rfl, hl, hc, ha, hcc, hb⟩
    obtain ⟨b, o, rfl, y0, y1, y2, y3, y4, y5, y6⟩ := end_walk 2 k k (.inl rfl) hkk (by simp) w1 rs c lf a1 hl hc ha
    have HB := Lib.hide (show Below w.heap.size w w1 from Below.step (show Below w.heap.size w (w.alloc _) from (by repeat (first | exact Below.refl _ _ | assumption | refine Below.drew ?_ | refine below_drewN ?_ _ | refine Below.allocs ?_ | refine Below.next ?_ (by assumption) | refine Below.setCell ?_ (by dsimp only; omega) _))) (Below.mono hb (by simp)))
    clear hl hc ha hb
    go_wp2
    go_ret
    exact ⟨rfl, HB.out⟩
  | false =>
    go_enter Try.func9, Try.ntmps9
    go_wp2_with (go_at_call 17; refine (CP.out _).mono ?_; rintro e w' ⟨rfl, rfl⟩)
    refine (keepRun_any (endActs 3 k) _ 11 11 _ rfl (by omega) (acts_newAt w (endActs 3 k) _ _ rfl)).mono ?_
    rintro e w1 ⟨rs, c, lf, a1, c1, rfl, hl, hc, ha, hcc, hb⟩
    obtain ⟨b, o, rfl, y0, y1, y2, y3, y4, y5, y6⟩ := end_walk 3 k 7 (.inr rfl) hkk (by simp) w1 rs c lf a1 hl hc ha
    have HB := Lib.hide (show Below w.heap.size w w1 from Below.step (show Below w.heap.size w (w.alloc _) from (by repeat (first | exact Below.refl _ _ | assumption | refine Below.drew ?_ | refine below_drewN ?_ _ | refine Below.allocs ?_ | refine Below.next ?_ (by assumption) | refine Below.setCell ?_ (by dsimp only; omega) _))) (Below.mono hb (by simp)))
    clear hl hc ha hb
    go_wp2
    go_ret
    exact ⟨rfl, HB.out⟩
end Go.Proofs.Ytpdcaoagpjcgbab

